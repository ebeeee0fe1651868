/- Layer 10: copy of a node, and of all below it; Copy. -/
import Derived.Test.YtkfoddblgdmabaaTrCopyMath
import Derived.Test.YtkfoddblgdmabaaTrTree
namespace Go.Proofs.Ytkfoddblgdmabaa.tr
open Go.RowKit

section
variable {w w' : World} {B : Nat} {M : Mp} {f : Nat}
/-- What copy makes of a kid. -/
structure Kc (M : Mp) (f h k : Nat) (W W' : World) (c : Nat) (M2 : Mp) : Prop where
  mm : Mm W' W.heap.size M2
  cp : ∀ L F, Kid M f h k L F → ∃ F', Kid M2 f h c L F' ∧ F'.Nodup
  bel : Below W.heap.size W W'
theorem Kc.cp2 {h k c : Nat} {W W' : World} {M2 : Mp} (g : Kc M f h k W W' c M2) : Cp M M2 f h k c W.heap.size W'.heap.size := fun L F hk => by
  obtain ⟨F', h1, h2⟩ := g.cp L F hk
  exact ⟨F', h1, h2, fun x hx => by
    have := h1.1.all x hx
    cases e : M2 x with
    | none => exact absurd e this
    | some n => exact g.mm.lt ⟨x, n, e, Or.inl rfl⟩⟩

/-- Where the loop of copy stands. -/
structure Cl (M : Mp) (f h : Nat) (n : Nr) (N c k : Nat) (w W : World) (M2 : Mp) (ev kv : Value) (K' : List Nat) : Prop where
  mm : Mm W N M2
  top : M2 c = some ⟨ev, kv, n.es, K'⟩
  cps : Cps M M2 f h (n.ks.take k) K' (c + 1) W.heap.size
  bel : Below N w W
theorem Cl.cell {h N c k : Nat} {n : Nr} {W : World} {M2 : Mp} {ev kv : Value} {K' : List Nat} (g : Cl M f h n N c k w W M2 ev kv K') : ∀ V, Fr (fun j => kv.ownBlock = some j) W V → V.cell? ⟨c, 1, none⟩ = some kv ∧ V.frozen? ⟨c, 1, none⟩ = false := fun V hf => by
  have t := g.mm.top3 g.top hf
  obtain ⟨_, c1, _, c2⟩ := ncell t
  exact ⟨c1, c2⟩
theorem Cl.same {h N c k : Nat} {n : Nr} {W W' : World} {M2 : Mp} {ev kv : Value} {K' : List Nat} (g : Cl M f h n N c k w W M2 ev kv K') (hb : Below W.heap.size W W') (hs : W'.heap.size = W.heap.size) (hN : N ≤ w.heap.size) : Cl M f h n N c k w W' M2 ev kv K' :=
  ⟨g.mm.below hb, g.top, by rw [hs]; exact g.cps, g.bel.trans (hb.mono (Nat.le_trans hN g.bel.size))⟩
/-- A round of the loop. -/
theorem Cl.next {h N c k kid kc : Nat} {n : Nr} {W W1 W2 W3 : World} {M2 M3 : Mp} {ev kv v2 : Value} {K' : List Nat} (g : Cl M f h n N c k w W M2 ev kv K') (hk : n.ks[k]? = some kid) (q : Kc M f h kid W W1 kc M3) (hb : Below W1.heap.size W1 W2)
    (row : RowK W3 N v2 (K' ++ [kc])) (fr : Fr (fun j => kv.ownBlock = some j) W2 W3) (new : ∀ j, v2.ownBlock = some j → kv.ownBlock = some j ∨ W2.heap.size ≤ j) (hN : N ≤ w.heap.size) :
    ∃ M4, Cl M f h n N c (k + 1) w (W3.setCell ⟨c, 1, none⟩ v2) M4 ev v2 (K' ++ [kc]) := by
  have hcl : c < W.heap.size := (g.mm.lt ⟨c, _, g.top, Or.inl rfl⟩).2
  have hlt : ∀ j, Ft M2 j → j < W.heap.size := fun j hj => (g.mm.lt hj).2
  have hNW : N ≤ W.heap.size := Nat.le_trans hN g.bel.size
  have m1 : Mm W2 N (Mp.cut W.heap.size M2 M3) := ((g.mm.below q.bel).cut q.mm hNW hlt).below hb
  have htop : Mp.cut W.heap.size M2 M3 c = some ⟨ev, kv, n.es, K'⟩ := (Mp.cut_lo hcl).trans g.top
  obtain ⟨m4, t4⟩ := m1.kids' htop fr row new
  have hs3 := t4.fr.size
  have hs2 := hb.size
  refine ⟨_, ⟨m4, Mp.put_same _ _ _, ?_, ?_⟩⟩
  · rw [List.take_add_one, hk]
    refine (Cps.snoc (mid := W.heap.size) (hi := W1.heap.size) ?_ q.bel.size ?_).more (by omega)
    · exact q.cp2.congr (fun x h1 _ => by rw [Mp.put_other _ _ (by omega), Mp.cut_hi h1])
    · exact g.cps.congr (fun x h1 h2 => by rw [Mp.put_other _ _ (by omega), Mp.cut_lo h2])
  · have f4 : Fr (Ft (Mp.cut W.heap.size M2 M3)) W2 (W3.setCell ⟨c, 1, none⟩ v2) := t4.fr
    exact f4.below ((g.bel.trans (q.bel.mono hNW)).trans (hb.mono (by have := q.bel.size; omega))) (by have := q.bel.size; omega) (fun j hj => (m1.lt hj).1)

set_option maxHeartbeats 6400000 in
set_option maxRecDepth 100000 in
theorem copy_walk {b h : Nat} {n : Nr} (m : Mm w B M) (hn : M b = some n) (hel : n.es.length ≤ 20000) (hkl : n.ks.length ≤ 20001)
    (hkid : ∀ (W : World) (i k : Nat), Mm W B M → n.ks[i]? = some k → Calls Try.prog 36 #[.pointer (some ⟨k, 0, none⟩)] W fun e W' => ∃ c M2, e = .returned (.pointer (some ⟨c, 0, none⟩)) ∧ Kc M f h k W W' c M2) :
    Calls Try.prog 36 #[.pointer (some ⟨b, 0, none⟩)] w fun e w' => ∃ c M2 ev kv K', e = .returned (.pointer (some ⟨c, 0, none⟩)) ∧ Cl M f h n w.heap.size c n.ks.length w w' M2 ev kv K' := by
  obtain ⟨c0, _, _, _⟩ := ncell (m.top b n hn).1
  have hcl := cloneE_any (m.ents b n hn) (by omega)
  have HM : Hid (Mm w B M) := m
  have HK : Hid (∀ (W : World) (i k : Nat), Mm W B M → n.ks[i]? = some k → Calls Try.prog 36 #[.pointer (some ⟨k, 0, none⟩)] W fun e W' => ∃ c M2, e = .returned (.pointer (some ⟨c, 0, none⟩)) ∧ Kc M f h k W W' c M2) := hkid
  clear m hkid
  go_enter Try.func36, Try.ntmps36
  go_wp2_with ((try go_at_call 52); refine hcl.mono ?_; clear hcl; rintro e w1 ⟨ev, rfl, row1, hb1⟩; obtain ⟨va, vc, rfl, _, _⟩ := row1.len; have m1 := HM.out.below hb1; have m2 := m1.below (below_alloc1 w1 (.cells #[.slice va n.es.length vc, .slice none 0 0] 68)); obtain ⟨_, c1, _, _⟩ := ncell (m2.top b n hn).1; obtain ⟨ka, kc, ek, _, _⟩ := (m2.kids b n hn).len; rw [ek] at c1)
  have hS : ∃ M2, Cl M f h n w.heap.size w1.heap.size 0 w (w1.alloc (.cells #[.slice va n.es.length vc, .slice none 0 0] 68)) M2 (.slice va n.es.length vc) (.slice none 0 0) [] := by
    have m0 : Mm w1 w.heap.size (fun _ => none) := ⟨fun _ _ h => (by cases h), fun _ _ h => (by cases h), fun _ _ h => (by cases h), fun _ _ _ _ _ h => (by cases h), fun _ _ _ _ _ h => (by cases h)⟩
    have hnew : (w1.alloc (.cells #[.slice va n.es.length vc, .slice none 0 0] 68)).heap[w1.heap.size]? = some (nobj (.slice va n.es.length vc) (.slice none 0 0)) := heap_alloc_new _ _
    have hb2 := below2 hb1 (below_alloc1 w1 (.cells #[.slice va n.es.length vc, .slice none 0 0] 68))
    have m0w : Mm w w.heap.size (fun _ => none) := ⟨fun _ _ h => (by cases h), fun _ _ h => (by cases h), fun _ _ h => (by cases h), fun _ _ _ _ _ h => (by cases h), fun _ _ _ _ _ h => (by cases h)⟩
    obtain ⟨m3, _, _⟩ := m0w.new (b := w1.heap.size) (n' := ⟨.slice va n.es.length vc, .slice none 0 0, n.es, []⟩) hb2 hb1.size (Nat.le_refl _) hnew (row1.below' (below_alloc1 _ _)) (grow_nil _ _ _ _ _)
    exact ⟨_, ⟨m3, Mp.put_same _ _ _, by show _ ≤ _; simp, hb2⟩⟩
  obtain ⟨M0, hS⟩ := hS
  have HN : Hid (w.heap.size ≤ w1.heap.size) := hb1.size
  clear row1 m1 m2 hb1
  generalize w1.alloc (.cells #[.slice va n.es.length vc, .slice none 0 0] 68) = W0 at *
  generalize w1.heap.size = c at *
  have HS : Hid (Cl M f h n w.heap.size c 0 w W0 M0 (.slice va n.es.length vc) (.slice none 0 0) []) := hS
  have hkl2 : (n.ks.length : Int) ≤ 20001 := by omega
  clear hS c1 c0
  go_loopw [18] (fun s18 wr => ∃ (k : Nat) (M2 : Mp) (kv : Value) (K' : List Nat), k ≤ n.ks.length ∧ s18 = .int .i64 (k : Int) ∧ Hid (Cl M f h n w.heap.size c k w wr M2 (.slice va n.es.length vc) kv K')) (fun s18 _ => n.ks.length - (Go.RowKit.intOf s18).toNat)
  case atStart => exact ⟨0, M0, _, _, Nat.zero_le _, rfl, HS⟩
  case round =>
    obtain ⟨k, M2, kv, K', hk, rfl, hcl⟩ := hrel
    by_cases hlt : k < n.ks.length
    · have hlt2 : (k : Int) < (n.ks.length : Int) := by omega
      have hx : n.ks[k]? = some n.ks[k] := by simp [hlt]
      generalize n.ks[k] = kid at hx
      have HX : Hid (n.ks[k]? = some kid) := hx
      have mr := HM.out.below hcl.out.bel
      obtain ⟨rb, rc, e, _, _, _, r0⟩ := mr.kid hn hx
      rw [ek] at e
      injection e with e1 e2 e3
      subst e1
      subst e3
      have CE : Hid (∀ V, Fr (fun j => kv.ownBlock = some j) wr V → V.cell? ⟨c, 1, none⟩ = some kv ∧ V.frozen? ⟨c, 1, none⟩ = false) := hcl.out.cell
      have hrow : RowK wr w.heap.size kv K' := hcl.out.mm.kids _ _ hcl.out.top
      obtain ⟨kva, kvc, ekv, _, _⟩ := hrow.len
      subst ekv
      have hKl : Hid (K'.length ≤ 20001) := by
        have := hcl.out.cps.len
        rw [List.length_take] at this
        exact hide (by omega)
      have HKD := HK.out wr.drew k kid (mr.below (Below.refl _ _).drew) hx
      clear hx mr e2
      go_wp2_with fail
      have HR : Hid (RowK wr w.heap.size (.slice kva K'.length kvc) K') := hrow
      clear hrow r0
      refine anyL_begin (S := fun V => Fr (fun j => (Value.slice kva K'.length kvc).ownBlock = some j) wr V) (n := 11) (by kernel_rfl) ((Fr.refl _ _).drew) (fun hHeld => ?_)
      have hD : Below wr.heap.size wr wr.drew := (Below.refl _ _).drew
      have hDs : wr.drew.heap.size = wr.heap.size := rfl
      generalize wr.drew = Wd at hHeld hD hDs HKD ⊢
      refine takeL 0 22 (v := .pointer (some ⟨c, 0, none⟩)) rfl rfl (by kernel_rfl) (by kernel_rfl) (by kernel_rfl) (by kernel_rfl) (fun _ _ _ h => h) (Or.inl ⟨by rfl, by (intro W hSw; obtain ⟨s1, s2⟩ := CE.out W hSw; go_simp)⟩) hHeld ?_
      simp only [List.setIfInBounds_toArray, List.set_cons_zero, List.set_cons_succ]
      refine takeL 1 23 (v := .pointer (some ⟨c, 0, none⟩)) rfl rfl (by kernel_rfl) (by kernel_rfl) (by kernel_rfl) (by kernel_rfl) (fun _ _ _ h => h) (Or.inl ⟨by rfl, by (intro W hSw; obtain ⟨s1, s2⟩ := CE.out W hSw; go_simp)⟩) hHeld ?_
      simp only [List.setIfInBounds_toArray, List.set_cons_zero, List.set_cons_succ]
      refine takeL 2 24 (v := .pointer (some ⟨c, 0, none⟩)) rfl rfl (by kernel_rfl) (by kernel_rfl) (by kernel_rfl) (by kernel_rfl) (fun _ _ _ h => h) (Or.inl ⟨by rfl, by (intro W hSw; obtain ⟨s1, s2⟩ := CE.out W hSw; go_simp)⟩) hHeld ?_
      simp only [List.setIfInBounds_toArray, List.set_cons_zero, List.set_cons_succ]
      refine takeL 3 25 (v := .pointer (some ⟨c, 1, none⟩)) rfl rfl (by kernel_rfl) (by kernel_rfl) (by kernel_rfl) (by kernel_rfl) (fun _ _ _ h => h) (Or.inl ⟨by rfl, by (intro W hSw; obtain ⟨s1, s2⟩ := CE.out W hSw; go_simp)⟩) hHeld ?_
      simp only [List.setIfInBounds_toArray, List.set_cons_zero, List.set_cons_succ]
      refine takeL 4 26 (v := (.slice kva K'.length kvc)) rfl rfl (by kernel_rfl) (by kernel_rfl) (by kernel_rfl) (by kernel_rfl) (fun _ _ _ h => h) (Or.inl ⟨by rfl, by (intro W hSw; obtain ⟨s1, s2⟩ := CE.out W hSw; go_simp)⟩) hHeld ?_
      simp only [List.setIfInBounds_toArray, List.set_cons_zero, List.set_cons_succ]
      refine takeL 5 27 (v := .pointer (some ⟨kid, 0, none⟩)) rfl rfl (by kernel_rfl) (by kernel_rfl) (by kernel_rfl) (by kernel_rfl) (fun _ _ _ h => h) (Or.inl ⟨by rfl, by (intro W hSw; obtain ⟨s1, s2⟩ := CE.out W hSw; go_simp)⟩) hHeld ?_
      simp only [List.setIfInBounds_toArray, List.set_cons_zero, List.set_cons_succ]
      refine anyL_one 6 (by kernel_rfl) (upL rfl (fun K hK => ?_))
      go_simp
      refine HKD.mono ?_
      rintro e' W1 ⟨kc2, M3, rfl, hkc⟩
      have hC1 := below2 hD hkc.bel
      go_simp
      refine hK.out _ _ (fun _ => hHeld.trans (Fr.of_below (F := fun _ => False) hkc.bel) (fun _ _ g => g.elim)) (fun hHeld0 => ?_)
      have hHeld := hHeld0 (by decide)
      clear hHeld0 hK K
      (try simp only [Act.put, List.setIfInBounds_toArray, List.set_cons_zero, List.set_cons_succ])
      refine anyL_one 7 (by kernel_rfl) (upL rfl (fun K hK => ?_))
      go_simp
      have rv1 := one_newK W1 kc2
      have hB2 := below_alloc1 W1 (.cells #[.pointer (some ⟨kc2, 0, none⟩)] 65)
      have hC2 := below2 hC1 hB2
      have row1 := HR.out.below' hC2
      refine hK.out _ _ (fun _ => hHeld.alloc _) (fun hHeld0 => ?_)
      have hHeld := hHeld0 (by decide)
      clear hHeld0 hK K
      (try simp only [Act.put, List.setIfInBounds_toArray, List.set_cons_zero, List.set_cons_succ])
      refine anyL_one 8 (by kernel_rfl) (upL rfl (fun K hK => ?_))
      refine step_append_rows gK_len gK_one Try.underlying66 Try.infoK rfl (by decide) (by decide) rfl (.tmp 26) (.tmp 29) rfl (by first | rfl | simp [Act.eval]) row1 (by first | rfl | simp [Act.eval]) rv1 (by have := hKl.out; simp; omega) (Nat.le_trans hcl.out.bel.size hC2.size) ?_
      intro v2 W3 row2 fr2 new2
      have fB : Fr (fun j => (Value.slice kva K'.length kvc).ownBlock = some j) wr W3 := hHeld.trans fr2 (fun _ _ g => g)
      refine hK.out _ _ (fun _ => fB) (fun hHeld0 => ?_)
      have hHeld := hHeld0 (by decide)
      clear hHeld0 hK K
      (try simp only [Act.put, List.setIfInBounds_toArray])
      refine anyL_one 9 (by kernel_rfl) (upL rfl (fun K hK => ?_))
      go_simp
      refine hK.out _ _ (fun _ => hHeld) (fun hHeld0 => ?_)
      have hHeld := hHeld0 (by decide)
      clear hHeld0 hK K
      (try simp only [Act.put, List.setIfInBounds_toArray, List.set_cons_zero, List.set_cons_succ])
      refine anyL_one 10 (by kernel_rfl) (upL rfl (fun K hK => ?_))
      go_simp
      refine hK.out _ _ (fun _ => hHeld) (fun hHeld0 => ?_)
      have hHeld := hHeld0 (by decide)
      clear hHeld0 hK K
      (try simp only [Act.put, List.setIfInBounds_toArray, List.set_cons_zero, List.set_cons_succ])
      obtain ⟨s1, s2⟩ := CE.out _ hHeld
      obtain ⟨a2, c2', ev2, _, _⟩ := row2.len
      subst ev2
      obtain ⟨M4, hcl4⟩ := (hcl.out.same hD hDs (Nat.le_refl _)).next HX.out hkc hB2 row2 fr2 new2 (Nat.le_refl _)
      have HC4 := (show Hid _ from hcl4)
      generalize hzn : (K' ++ [kc2]).length = zn at HC4 ⊢
      clear hzn hcl4 row2 fr2 new2 rv1 row1
      refine anyL_one 11 (by kernel_rfl) (upL rfl (fun K hK => ?_))
      go_simp
      refine hK.out _ _ (fun q => absurd rfl q) (fun _ => ?_)
      clear hK K
      (try simp only [Act.put, List.setIfInBounds_toArray, List.set_cons_zero, List.set_cons_succ])
      refine anyL_done (by kernel_rfl) ?_ _
      go_wp2_with fail
      go_roundw
      case rel => exact ⟨k + 1, M4, _, _, by omega, by go_num, HC4⟩
      case measure => simp [Go.RowKit.intOf]; omega
    · obtain rfl : k = n.ks.length := by omega
      go_wp2_with fail
      go_ret
      exact ⟨c, M2, _, kv, K', rfl, hcl.out⟩

/-- **copy**: a tree of new nodes. -/
theorem copy_tr : ∀ (h : Nat) (w : World) (b : Nat) (L : List Ent) (F : List Nat), Mm w B M → Tr M f h b L F → L.length ≤ 20000 →
    Calls Try.prog 36 #[.pointer (some ⟨b, 0, none⟩)] w fun e w' => ∃ c M2, e = .returned (.pointer (some ⟨c, 0, none⟩)) ∧ Mm w' w.heap.size M2 ∧ (∀ L F, Tr M f h b L F → ∃ F', Tr M2 f h c L F' ∧ F'.Nodup) ∧ (∀ n, M b = some n → ∃ n', M2 c = some n' ∧ n'.es = n.es) ∧ Below w.heap.size w w'
  | 0, w, b, L, F, m, t, hl => by
    obtain ⟨n, hn, hk, hL, _⟩ := t
    refine (copy_walk (f := f) (h := 0) m hn (by rw [hL]; exact hl) (by rw [hk]; simp) (fun W i k _ hi => by rw [hk] at hi; simp at hi)).mono ?_
    rintro e w' ⟨c, M2, ev, kv, K', rfl, g⟩
    have hK' : K' = [] := by
      have := g.cps.len
      rw [List.take_length, hk] at this
      exact List.eq_nil_of_length_eq_zero this
    refine ⟨c, M2, rfl, g.mm, fun L2 F2 t2 => ?_, fun n2 h2 => ?_, g.bel⟩
    · obtain ⟨n3, q1, _, q3, _⟩ := t2
      rw [hn] at q1; cases q1
      exact ⟨[c], ⟨_, g.top, hK', q3, rfl⟩, by simp⟩
    · rw [hn] at h2; cases h2
      exact ⟨_, g.top, rfl⟩
  | h + 1, w, b, L, F, m, t, hl => by
    obtain ⟨n, hn⟩ := t.dom
    have hel := (t.es_sub hn).length_le
    have hkl := t.ks_len hn
    refine (copy_walk (f := f) (h := h) m hn (by omega) (by omega) (fun W i k mW hi => ?_)).mono ?_
    · obtain ⟨Lk, Fk, hkd, hlk⟩ := t.kidat hn hi
      refine (copy_tr h W k Lk Fk mW hkd.1 (by omega)).mono ?_
      rintro e W' ⟨c, M2, rfl, g1, g2, g3, g4⟩
      refine ⟨c, M2, rfl, ⟨g1, fun L2 F2 hk2 => ?_, g4⟩⟩
      obtain ⟨F', q1, q2⟩ := g2 L2 F2 hk2.1
      obtain ⟨nk, q3, q4⟩ := hk2.2
      obtain ⟨nk', q5, q6⟩ := g3 nk q3
      exact ⟨F', ⟨q1, nk', q5, by rw [q6]; exact q4⟩, q2⟩
    · rintro e w' ⟨c, M2, ev, kv, K', rfl, g⟩
      refine ⟨c, M2, rfl, g.mm, fun L2 F2 t2 => ?_, fun n2 h2 => ?_, g.bel⟩
      · exact t2.copied hn g.top rfl (by have := g.cps; rwa [List.take_length] at this) (Nat.lt_succ_self c)
      · rw [hn] at h2; cases h2
        exact ⟨_, g.top, rfl⟩

set_option maxHeartbeats 3200000 in
set_option maxRecDepth 100000 in
/-- **Copy**: a tree of its own. -/
theorem tcopy_any {tb : Nat} {L : List Ent} (t : Te w B tb f M L) : Calls Try.prog 16 #[.pointer (some ⟨tb, 0, none⟩)] w fun e w' => ∃ tc M2, e = .returned (.pointer (some ⟨tc, 0, none⟩)) ∧ Te w' w.heap.size tc f M2 L ∧ Below w.heap.size w w' := by
  obtain ⟨R, H, F, h1, m, g⟩ := t.ex
  have hlen := t.len
  have hcp := copy_tr H w.drew R L F (m.below (Below.refl _ _).drew) g.tr (by omega)
  have HG : Hid (Gd M f R H L F ∧ 3 ≤ f ∧ f ≤ 64 ∧ L.length ≤ 4096) := ⟨g, t.fan.1, t.fan.2, t.len⟩
  have CE : Hid (∀ V, Below w.heap.size w V → V.cell? ⟨tb, 0, none⟩ = some (.int .i64 (f : Int)) ∧ V.cell? ⟨tb, 1, none⟩ = some (.pointer (some ⟨R, 0, none⟩)) ∧ V.cell? ⟨tb, 2, none⟩ = some (.int .i64 (L.length : Int))) := fun V hb => by
    have h2 := (hb.block tb (t.lt (Or.inr rfl)).2).trans h1
    exact ⟨(cell_obj (j := 0) h2).1, (cell_obj (j := 1) h2).1, (cell_obj (j := 2) h2).1⟩
  generalize hln : L.length = ln at *
  clear h1 m g t hlen
  go_enter Try.func16, Try.ntmps16
  go_wp2_with fail
  refine anyL_begin (S := fun V => Below w.heap.size w V) (n := 15) (by kernel_rfl) ((Below.refl _ _).drew) (fun hHeld => ?_)
  have hDs : w.drew.heap.size = w.heap.size := rfl
  generalize w.drew = Wd at hHeld hDs hcp ⊢
  refine takeL 0 5 (v := .pointer (some ⟨tb, 0, none⟩)) rfl rfl (by kernel_rfl) (by kernel_rfl) (by kernel_rfl) (by kernel_rfl) (fun _ _ _ h => h) (Or.inl ⟨by rfl, by (intro W hSw; obtain ⟨s1, s2, s3⟩ := CE.out W hSw; go_simp)⟩) hHeld ?_
  simp only [List.setIfInBounds_toArray, List.set_cons_zero, List.set_cons_succ]
  refine takeL 1 6 (v := .pointer (some ⟨tb, 0, none⟩)) rfl rfl (by kernel_rfl) (by kernel_rfl) (by kernel_rfl) (by kernel_rfl) (fun _ _ _ h => h) (Or.inl ⟨by rfl, by (intro W hSw; obtain ⟨s1, s2, s3⟩ := CE.out W hSw; go_simp)⟩) hHeld ?_
  simp only [List.setIfInBounds_toArray, List.set_cons_zero, List.set_cons_succ]
  refine takeL 2 7 (v := .pointer (some ⟨tb, 0, none⟩)) rfl rfl (by kernel_rfl) (by kernel_rfl) (by kernel_rfl) (by kernel_rfl) (fun _ _ _ h => h) (Or.inl ⟨by rfl, by (intro W hSw; obtain ⟨s1, s2, s3⟩ := CE.out W hSw; go_simp)⟩) hHeld ?_
  simp only [List.setIfInBounds_toArray, List.set_cons_zero, List.set_cons_succ]
  refine takeL 3 8 (v := .int .i64 (f : Int)) rfl rfl (by kernel_rfl) (by kernel_rfl) (by kernel_rfl) (by kernel_rfl) (fun _ _ _ h => h) (Or.inl ⟨by rfl, by (intro W hSw; obtain ⟨s1, s2, s3⟩ := CE.out W hSw; go_simp)⟩) hHeld ?_
  simp only [List.setIfInBounds_toArray, List.set_cons_zero, List.set_cons_succ]
  refine takeL 4 9 (v := .pointer (some ⟨tb, 0, none⟩)) rfl rfl (by kernel_rfl) (by kernel_rfl) (by kernel_rfl) (by kernel_rfl) (fun _ _ _ h => h) (Or.inl ⟨by rfl, by (intro W hSw; obtain ⟨s1, s2, s3⟩ := CE.out W hSw; go_simp)⟩) hHeld ?_
  simp only [List.setIfInBounds_toArray, List.set_cons_zero, List.set_cons_succ]
  refine takeL 5 10 (v := .pointer (some ⟨tb, 0, none⟩)) rfl rfl (by kernel_rfl) (by kernel_rfl) (by kernel_rfl) (by kernel_rfl) (fun _ _ _ h => h) (Or.inl ⟨by rfl, by (intro W hSw; obtain ⟨s1, s2, s3⟩ := CE.out W hSw; go_simp)⟩) hHeld ?_
  simp only [List.setIfInBounds_toArray, List.set_cons_zero, List.set_cons_succ]
  refine takeL 6 11 (v := .pointer (some ⟨tb, 1, none⟩)) rfl rfl (by kernel_rfl) (by kernel_rfl) (by kernel_rfl) (by kernel_rfl) (fun _ _ _ h => h) (Or.inl ⟨by rfl, by (intro W hSw; obtain ⟨s1, s2, s3⟩ := CE.out W hSw; go_simp)⟩) hHeld ?_
  simp only [List.setIfInBounds_toArray, List.set_cons_zero, List.set_cons_succ]
  refine takeL 7 12 (v := .pointer (some ⟨R, 0, none⟩)) rfl rfl (by kernel_rfl) (by kernel_rfl) (by kernel_rfl) (by kernel_rfl) (fun _ _ _ h => h) (Or.inl ⟨by rfl, by (intro W hSw; obtain ⟨s1, s2, s3⟩ := CE.out W hSw; go_simp)⟩) hHeld ?_
  simp only [List.setIfInBounds_toArray, List.set_cons_zero, List.set_cons_succ]
  refine takeL 9 14 (v := .pointer (some ⟨tb, 0, none⟩)) rfl rfl (by kernel_rfl) (by kernel_rfl) (by kernel_rfl) (by kernel_rfl) (fun _ _ _ h => h) (Or.inl ⟨by rfl, by (intro W hSw; obtain ⟨s1, s2, s3⟩ := CE.out W hSw; go_simp)⟩) hHeld ?_
  simp only [List.setIfInBounds_toArray, List.set_cons_zero, List.set_cons_succ]
  refine takeL 10 15 (v := .pointer (some ⟨tb, 0, none⟩)) rfl rfl (by kernel_rfl) (by kernel_rfl) (by kernel_rfl) (by kernel_rfl) (fun _ _ _ h => h) (Or.inl ⟨by rfl, by (intro W hSw; obtain ⟨s1, s2, s3⟩ := CE.out W hSw; go_simp)⟩) hHeld ?_
  simp only [List.setIfInBounds_toArray, List.set_cons_zero, List.set_cons_succ]
  refine takeL 11 16 (v := .pointer (some ⟨tb, 2, none⟩)) rfl rfl (by kernel_rfl) (by kernel_rfl) (by kernel_rfl) (by kernel_rfl) (fun _ _ _ h => h) (Or.inl ⟨by rfl, by (intro W hSw; obtain ⟨s1, s2, s3⟩ := CE.out W hSw; go_simp)⟩) hHeld ?_
  simp only [List.setIfInBounds_toArray, List.set_cons_zero, List.set_cons_succ]
  refine takeL 12 17 (v := .int .i64 (ln : Int)) rfl rfl (by kernel_rfl) (by kernel_rfl) (by kernel_rfl) (by kernel_rfl) (fun _ _ _ h => h) (Or.inl ⟨by rfl, by (intro W hSw; obtain ⟨s1, s2, s3⟩ := CE.out W hSw; go_simp)⟩) hHeld ?_
  simp only [List.setIfInBounds_toArray, List.set_cons_zero, List.set_cons_succ]
  refine anyL_one 8 (by kernel_rfl) (upL rfl (fun K hK => ?_))
  go_simp
  refine hcp.mono ?_
  rintro e' W1 ⟨c, M2, rfl, m2, htr, htop, hb2⟩
  have hb3 := below2 hHeld hb2
  go_simp
  refine hK.out _ _ (fun _ => hb3) (fun hHeld0 => ?_)
  have hHeld := hHeld0 (by decide)
  clear hHeld0 hK K
  (try simp only [Act.put, List.setIfInBounds_toArray, List.set_cons_zero, List.set_cons_succ])
  refine anyL_one 13 (by kernel_rfl) (upL rfl (fun K hK => ?_))
  go_simp
  refine hK.out _ _ (fun _ => hHeld) (fun hHeld0 => ?_)
  have hHeld := hHeld0 (by decide)
  clear hHeld0 hK K
  (try simp only [Act.put, List.setIfInBounds_toArray, List.set_cons_zero, List.set_cons_succ])
  refine anyL_one 14 (by kernel_rfl) (upL rfl (fun K hK => ?_))
  go_simp
  have hb4 := below2 hHeld (below_alloc1 W1 (tobj f c ln))
  refine hK.out _ _ (fun _ => hb4) (fun hHeld0 => ?_)
  have hHeld := hHeld0 (by decide)
  clear hHeld0 hK K
  (try simp only [Act.put, List.setIfInBounds_toArray, List.set_cons_zero, List.set_cons_succ])
  refine anyL_one 15 (by kernel_rfl) (upL rfl (fun K hK => ?_))
  go_simp
  refine hK.out _ _ (fun q => absurd rfl q) (fun _ => ?_)
  clear hK K
  (try simp only [Act.put, List.setIfInBounds_toArray, List.set_cons_zero, List.set_cons_succ])
  refine anyL_done (by kernel_rfl) ?_ _
  go_wp2_with fail
  go_ret
  obtain ⟨g, f3, f64, hl⟩ := HG.out
  obtain ⟨F', q1, q2⟩ := htr L F g.tr
  rw [hDs] at m2
  refine ⟨W1.heap.size, M2, rfl, ⟨⟨c, H, F', ?_, m2.below (below_alloc1 _ _), ⟨q1, fun q => ?_, q2, g.srt⟩⟩, ?_, ⟨f3, f64⟩, ?_⟩, hHeld⟩
  · rw [hln]
    exact heap_alloc_new _ _
  · obtain ⟨n, u1, u2⟩ := g.one q
    obtain ⟨n', u3, u4⟩ := htop n u1
    exact ⟨n', u3, by rw [u4]; exact u2⟩
  · exact hb3.size
  · omega
end

end Go.Proofs.Ytkfoddblgdmabaa.tr

/- Layer 10: Before. -/
import Derived.Test.YtkfoddblgdmabaaTrAt
namespace Go.Proofs.Ytkfoddblgdmabaa.tr
open Go.RowKit Go.Shelf

attribute [local go_sem] Oper.semAt_some

section
variable {w : World} {B tb f : Nat} {M : Mp} {L : List Ent}

set_option maxHeartbeats 6400000 in
set_option maxRecDepth 100000 in
theorem before_key (t : Te w B tb f M L) (key : ByteArray) (hkl : ∀ e ∈ L, e.key.size ≤ 4096) : Calls Try.prog 28 #[.pointer (some ⟨tb, 0, none⟩), .string key] w fun e w' => e = .returned (.tuple (nearV (beL key L)).toArray) ∧ Below w.heap.size w w' := by
  obtain ⟨R, H, F, h1, m, g⟩ := t.ex
  have hb0 : Below w.heap.size w (((w.alloc (.cells #[.string ⟨#[]⟩] 9)).alloc (.cells #[.int .i64 0] 2)).alloc (.cells #[.bool false] 4)) := below2 (below2 (below_alloc1 _ _) (below_alloc1 _ _)) (below_alloc1 _ _)
  have h1b := (hb0.block tb (t.lt (Or.inr rfl)).2).trans h1
  have hwk := walk_any (m.below hb0) (cell_obj (j := 1) h1b).1 g t.fan.1 (by have := t.len; omega) key
  have hsrt := g.srt
  have hlen := t.len
  have hz0 : (((w.alloc (.cells #[.string ⟨#[]⟩] 9)).alloc (.cells #[.int .i64 0] 2)).alloc (.cells #[.bool false] 4)).heap.size = w.heap.size + 3 := by simp
  have hx1 : (((w.alloc (.cells #[.string ⟨#[]⟩] 9)).alloc (.cells #[.int .i64 0] 2)).alloc (.cells #[.bool false] 4)).heap[w.heap.size]? = some (.cells #[.string ⟨#[]⟩] 9 (0, 0)) := alloc_first _ _ _ _
  have hx2 : (((w.alloc (.cells #[.string ⟨#[]⟩] 9)).alloc (.cells #[.int .i64 0] 2)).alloc (.cells #[.bool false] 4)).heap[w.heap.size + 1]? = some (.cells #[.int .i64 0] 2 (0, 0)) := alloc_second _ _ _ _
  have hx3 : (((w.alloc (.cells #[.string ⟨#[]⟩] 9)).alloc (.cells #[.int .i64 0] 2)).alloc (.cells #[.bool false] 4)).heap[w.heap.size + 1 + 1]? = some (.cells #[.bool false] 4 (0, 0)) := alloc_two _ _ _ _
  refine (callsIn_wide (n := 5)).1 ?_
  refine callsIn_of_wp_marks Try.func28 rfl trivial ?_ rfl
  simp only [Try.ntmps28, List.size_toArray, List.length_cons, List.length_nil, Nat.reduceAdd, Nat.reduceSub, Array.replicate_succ, Array.replicate_zero, List.push_toArray, List.append_toArray, List.nil_append, List.cons_append]
  gi_wp2_with (refine ⟨trivial, ?_⟩; gi_at_call 29; refine (callsIn_wide.2 hwk).mono ?_; clear hwk; rintro e w1 ⟨v, way, there, rfl, row, hb, res⟩)
  have HB1 : Hid (Below (((w.alloc (.cells #[.string ⟨#[]⟩] 9)).alloc (.cells #[.int .i64 0] 2)).alloc (.cells #[.bool false] 4)).heap.size (((w.alloc (.cells #[.string ⟨#[]⟩] 9)).alloc (.cells #[.int .i64 0] 2)).alloc (.cells #[.bool false] 4)) w1) := hb
  obtain ⟨up0, h0, b0, i0, rfl, hlw, hbx⟩ := res.bx hsrt t.fan.1
  have hvv : ∀ k, v.ownBlock = some k → ¬ Ft M k := fun k e q => by
    have h2 := (row.blk e).1
    have h3 := (t.lt (Or.inl q)).2
    omega
  have hbw0 := hb0.trans (hb.mono hb0.size)
  have hlo := lower_any (m.below hbw0) (B2 := 0) (Nat.zero_le _) (row.mono (Nat.zero_le _)) hvv hlw t.fan.1 (by have := g.high t.fan.1; omega) (by omega)
  have hsz0 := hb.size
  rw [hz0] at hsz0
  refine ⟨trivial, ?_⟩
  gi_at_call 42
  refine (callsIn_wide.2 hlo).mono ?_
  clear hlo
  rintro e w2 ⟨v2, up, bc, jc, rfl, row2, fr2, own2, lw2⟩
  have hnx := hbx up bc jc lw2
  have hupl : up.length ≤ 20000 := by
    have h3 := lw2.high
    have h4 := g.high t.fan.1
    omega
  obtain ⟨q, hq0⟩ : ∃ q, (bc, jc) = q := ⟨_, rfl⟩
  rw [hq0] at row2 hnx
  have hvs : ∃ a n c, v2 = .slice a n c := by
    obtain ⟨a, c, e, _⟩ := row2.len
    exact ⟨a, _, c, e⟩
  have hv3 : ∀ k, v.ownBlock = some k → w.heap.size + 3 ≤ k := fun k e => by have := (row.blk e).1; omega
  have hb : Below (w.heap.size + 3) w1 w2 := ⟨fr2.os, fr2.tape, fr2.output, fr2.size, fun k hk => fr2.block k (by omega) (fun q => by have := hv3 k q; omega)⟩
  have hbw := hbw0.trans (hb.mono (by omega))
  have hy1 := (hb.block _ (by omega)).trans ((HB1.out.block _ (by omega)).trans hx1)
  have hy2 := (hb.block _ (by omega)).trans ((HB1.out.block _ (by omega)).trans hx2)
  have hy3 := (hb.block _ (by omega)).trans ((HB1.out.block _ (by omega)).trans hx3)
  have hrow : RowS w2 0 v2 (up.reverse ++ [q]) := row2
  have hsz : w.heap.size + 3 ≤ w2.heap.size := Nat.le_trans hsz0 fr2.size
  clear res row hb hx1 hx2 hx3 hb0 h1b row2 fr2 own2 lw2 hbx hlw hvv hbw0 hv3 hq0 HB1
  gi_wp2_with (refine ⟨trivial, ?_⟩; gi_at_call 41; refine (callsIn_wide.2 (backward_any _ _ hvs)).mono ?_; rintro e w' ⟨rfl, h3⟩; rw [h3]; clear h3 w')
  have hB1 := below_alloc1 w2 (.cells #[v2] 71)
  have hbB : (w2.alloc (.cells #[v2] 71)).heap[w2.heap.size]? = some (.cells #[v2] 71 (0, 0)) := heap_alloc_new _ _
  have hw4 : w.heap.size + 3 < (w2.alloc (.cells #[v2] 71)).heap.size := by rw [World.size_alloc]; omega
  have hbW := hbw.trans (hB1.mono (Nat.le_trans (by omega) hsz))
  have hz1 := (hB1.block _ (by omega)).trans hy1
  have hz2 := (hB1.block _ (by omega)).trans hy2
  have hz3 := (hB1.block _ (by omega)).trans hy3
  have hrow4 := hrow.below' hB1
  have m4 := m.below hbW
  have hxB := (Array.getElem?_eq_some_iff.1 hbB).1
  clear hy1 hy2 hy3 hrow hB1 hbw h1 hz0
  generalize (w2.alloc (.cells #[v2] 71)) = W4 at *
  generalize w2.heap.size = xB at *
  obtain ⟨zs, hzs⟩ : ∃ zs, up.reverse ++ [q] = zs := ⟨_, rfl⟩
  have hz : zs = (q :: up).reverse := by rw [← hzs]; simp
  have hzl : zs.length = (q :: up).length := by rw [hz]; simp
  rw [hzs] at hrow4
  refine wp_backward (Bs := xB) (zs := zs) (v := v2) rfl rfl (by rw [hzl]; simp; omega) (fun k W => Below W4.heap.size W4 W ∧ Bx M L key ((q :: up).drop (zs.length - k))) (fun c W => c = .ret ∧ NrX w W (beL key L) ∧ Below w.heap.size w W) (fun k X Y row hj hg hr => ⟨hj.1.grown hg hj.1.size (fun k e => (hr k e).1), hj.2⟩) ?_ ?_ ?_
    (fun k a' W => ∃ Bx q', zs[k]? = some q' ∧ a' = { tmps := #[.pointer (some ⟨tb, 0, none⟩), .string key, undef, undef, .pointer (some ⟨w.heap.size, 0, none⟩), .pointer (some ⟨w.heap.size + 1, 0, none⟩), .pointer (some ⟨w.heap.size + 1 + 1, 0, none⟩), v, .bool there, undef, .pointer (some ⟨Bx, 0, none⟩), undef, .pointer (some ⟨tb, 0, none⟩), .bool false, .tuple #[v, .bool there], .pointer (some ⟨tb, 0, none⟩), .string key, .tuple #[v, .bool there], v, .bool there, v, v2, .func (.func 55) #[] #[.pointer (some ⟨xB, 0, none⟩)], .int .i64 (k : Int), .agg #[.pointer (some ⟨q'.1, 0, none⟩), .int .i64 (q'.2 : Int)], undef, undef, undef, undef, undef, undef, undef, undef, undef, undef, undef, undef, undef, undef, undef], defers := [] } ∧ W.heap[Bx]? = some (.cells #[.pointer (some ⟨q'.1, 0, none⟩), .int .i64 (q'.2 : Int)] 76 (0, 0)) ∧ W4.heap.size ≤ Bx) ?_ ?_ ?_ ?_ ?_
  · -- what was told stays told
    rintro c X Y row ⟨h0, ⟨e, e1, e2, e3, e4⟩, hbX⟩ hg hr
    have hs : ∀ j, j < 3 → Y.heap[w.heap.size + j]? = X.heap[w.heap.size + j]? := fun j hj => by
      have h2 : w.heap.size + 3 ≤ X.heap.size := by
        have := (Array.getElem?_eq_some_iff.1 e4).1
        omega
      exact hg.block _ (by omega) (fun q => by have := (hr _ q.symm).1; omega)
    exact ⟨h0, ⟨e, e1, (hs 0 (by omega)).trans e2, (hs 1 (by omega)).trans e3, (hs 2 (by omega)).trans e4⟩, hbX.grown hg hbX.size (fun k e => by have := (hr k e).1; omega)⟩
  · -- the way lies as it lay
    rintro k W ⟨h, _⟩
    exact ⟨(cell_obj ((h.block _ hxB).trans hbB)).1, hrow4.below' h⟩
  · -- at the start
    exact ⟨Below.refl _ _, by rw [Nat.sub_self]; exact hnx⟩
  · -- what the round's box says
    rintro k a' u X Y row ⟨Bx, q', h1, h2, h3, h4⟩ hg hrow
    exact ⟨Bx, q', h1, h2, (hg.block _ (Array.getElem?_eq_some_iff.1 h3).1 (fun q => by
      obtain ⟨o, g1, g2⟩ := (hrow _ q.symm).2
      rw [h3] at g1; cases g1; cases g2)).trans h3, h4⟩
  · intro l k q' W K hq' hj hK
    obtain ⟨q1, q2⟩ := q'
    dsimp only
    rw [zip2]
    change Code.wpIn _ _ _ _ _ { tmps := #[.pointer (some ⟨tb, 0, none⟩), .string key, undef, undef, .pointer (some ⟨w.heap.size, 0, none⟩), .pointer (some ⟨w.heap.size + 1, 0, none⟩), .pointer (some ⟨w.heap.size + 1 + 1, 0, none⟩), v, .bool there, undef, undef, undef, .pointer (some ⟨tb, 0, none⟩), .bool false, .tuple #[v, .bool there], .pointer (some ⟨tb, 0, none⟩), .string key, .tuple #[v, .bool there], v, .bool there, v, v2, .func (.func 55) #[] #[.pointer (some ⟨xB, 0, none⟩)], .int .i64 (k : Int), .agg #[.pointer (some ⟨q1, 0, none⟩), .int .i64 (q2 : Int)], undef, undef, undef, undef, undef, undef, undef, undef, undef, undef, undef, undef, undef, undef, undef], defers := [] } _
    clear hz1 hz2 hz3 hrow4 m4 hzs hz hnx hbB
    gi_wp2
    refine hK _ _ ?_ ?_ ⟨W.heap.size, (q1, q2), hq', rfl, ?_, ?_⟩
    · exact keeps_alloc _ _ _
    · exact ⟨hj.1.alloc hj.1.size _, hj.2⟩
    · exact heap_alloc_new _ _
    · exact hj.1.size
  · -- a round
    intro l k q' a' W hl hq' hj ⟨Bx, q2, e1, ha, hBx, hBs⟩
    rw [hq'] at e1; cases e1
    subst ha
    obtain ⟨q1, q2⟩ := q'
    dsimp only
    obtain ⟨hbJ, hJ⟩ := hj
    rw [hz] at hq'
    rw [hzl, rev_drop hq', ← hzl] at hJ
    obtain ⟨n, hn, hnl, hi, hA, hNx⟩ := hJ
    have hZ : Hid (W4.heap[w.heap.size]? = some (.cells #[.string ⟨#[]⟩] 9 (0, 0)) ∧ W4.heap[w.heap.size + 1]? = some (.cells #[.int .i64 0] 2 (0, 0)) ∧ W4.heap[w.heap.size + 1 + 1]? = some (.cells #[.bool false] 4 (0, 0))) := ⟨hz1, hz2, hz3⟩
    have mW := m4.below hbJ
    have hbWW := hbW.trans (hbJ.mono hbW.size)
    have hbWW' : Below w.heap.size w W := hbWW
    have hJs := hbJ.size
    have c10 := (cell_obj (j := 0) hBx).1
    have c11 := (cell_obj (j := 1) hBx).1
    have HZL : Hid (zs.length = (q :: up).length) := hzl
    have bq : Below W.heap.size W W := Below.refl _ _
    have hbQ : Hid (Below W.heap.size W W) := bq
    have bJq := hbJ
    have bWq := hbWW
    have mq := mW
    clear hq' hz1 hz2 hz3 hrow4 hzs hz hnx hbB hzl bq
    by_cases hq0 : q2 = 0
    · have hJK : Hid (Go.Proofs.Ytkfoddblgdmabaa.tr.Bx M L key ((q :: up).drop (zs.length - k))) := hNx hq0
      subst hq0
      clear hNx hA
      gi_wp2
      exact ⟨⟨hbQ.out.size, fun k' o _ ho _ => (hbQ.out.block k' (Array.getElem?_eq_some_iff.1 ho).1).trans ho⟩, bJq, hJK.out⟩
    · obtain ⟨j, hj⟩ : ∃ j, q2 = j + 1 := ⟨q2 - 1, by omega⟩
      have HJ : Hid (q2 = j + 1) := hj
      have hpos : (0 : Int) < (q2 : Int) := by omega
      have hjl : j < n.es.length := by omega
      obtain ⟨e, he⟩ : ∃ e, n.es[j]? = some e := ⟨_, List.getElem?_eq_getElem hjl⟩
      have hat := hA j e hj he
      have hjb : j ≤ 100000 := by omega
      clear hj hNx hA hq0
      have HEN : Hid (∀ V, Below W.heap.size W V → Calls Try.prog 31 #[.agg #[.pointer (some ⟨q1, 0, none⟩), .int .i64 (j : Int)]] V fun e' w' => (∃ rb c, n.ev = .slice (some ⟨rb, 0, none⟩) n.es.length c ∧ e' = .returned (.pointer (some ⟨rb, j * 2, none⟩))) ∧ Below V.heap.size V w') := fun V g => entry_any (mq.below g) hn he
      gi_wp2_with (first | (refine ⟨trivial, ?_⟩; gi_at_call 43; refine (CallsIn.inRound l (callsIn_wide.2 (before_any q1 j q2 HJ.out.symm hjb))).mono ?_; rintro e' W3 ⟨rfl, hb3⟩) | (refine ⟨trivial, ?_⟩; gi_at_call 31; refine (CallsIn.inRound l (callsIn_wide.2 (HEN.out _ hb3))).mono ?_; rintro e' W5 ⟨⟨rb, rc, er, rfl⟩, hb5'⟩; have hb5 := below2 hb3 hb5'))
      have m5 := mq.below hb5
      have hks : e.key.size ≤ 281474976710656 := by have := hkl e (beL_mem hat); omega
      have bJ5 := bJq.trans (hb5.mono bJq.size)
      have bW5 := bWq.trans (hb5.mono bWq.size)
      have h5s := bJ5.size
      have y1 := (bJ5.block _ (by omega)).trans hZ.out.1
      have y2 := (bJ5.block _ (by omega)).trans hZ.out.2.1
      have y3 := (bJ5.block _ (by omega)).trans hZ.out.2.2
      have hne : ∀ j, j < 3 → rb ≠ w.heap.size + j := fun j hj q => by
        have := (t.lt (Or.inl ⟨q1, n, hn, Or.inr (Or.inl (by rw [er]; rfl))⟩ : Tf tb M rb)).2
        omega
      have CE : Hid (∀ V, Fr (fun k => k = w.heap.size ∨ k = w.heap.size + 1 ∨ k = w.heap.size + 1 + 1) W5 V → V.cell? ⟨rb, j * 2, none⟩ = some (.string e.key) ∧ V.cell? ⟨rb, j * 2 + 1, none⟩ = some (.int .i64 e.n) ∧ True) := fun V g => by
        obtain ⟨rb', rc', er', _, _, hrl, a1, a2, _, _⟩ := m5.ent hn he
        rw [er] at er'
        injection er' with er' _ _
        injection er' with er'
        injection er' with er' _ _
        subst er'
        have hb := g.block rb hrl (by
          rintro (q | q | q)
          · exact hne 0 (by omega) q
          · exact hne 1 (by omega) q
          · exact hne 2 (by omega) q)
        exact ⟨(World.cell?_of_block hb).trans a1, (World.cell?_of_block hb).trans a2, trivial⟩
      have CX : Hid (∀ V, Below W5.heap.size W5 V → V.heap[w.heap.size]? = some (.cells #[.string ⟨#[]⟩] 9 (0, 0)) ∧ V.heap[w.heap.size + 1]? = some (.cells #[.int .i64 0] 2 (0, 0)) ∧ V.heap[w.heap.size + 1 + 1]? = some (.cells #[.bool false] 4 (0, 0))) := fun V g => ⟨(g.block _ (by omega)).trans y1, (g.block _ (by omega)).trans y2, (g.block _ (by omega)).trans y3⟩
      have HW5 : Hid (Fr (fun k => k = w.heap.size ∨ k = w.heap.size + 1 ∨ k = w.heap.size + 1 + 1) W W5) := hide ((Fr.of_below hbQ.out).trans (Fr.of_below hb5) (fun _ _ q => q))
      have HB5 : Hid (Below w.heap.size w W5) := bW5
      clear y1 y2 y3
      refine anyL_round (S := fun V => Fr (fun k => k = w.heap.size ∨ k = w.heap.size + 1 ∨ k = w.heap.size + 1 + 1) W5 V) (n := 11) (by kernel_rfl) (by kernel_rfl) (by rintro ⟨_, _, h⟩; exact h) ((Fr.refl _ _).drew) (fun hHeld => ?_)
      have hD5 : Below W5.heap.size W5 W5.drew := (Below.refl _ _).drew
      generalize W5.drew = Wd at hHeld hD5 ⊢
      refine takeL 0 31 (v := .pointer (some ⟨rb, j * 2, none⟩)) rfl rfl (by kernel_rfl) (by kernel_rfl) (by kernel_rfl) (by kernel_rfl) (fun _ _ _ h => h) (Or.inl ⟨by rfl, by (intro W hSw; obtain ⟨s1, s2, s3⟩ := CE.out W hSw; go_simp)⟩) hHeld ?_
      simp only [List.setIfInBounds_toArray, List.set_cons_zero, List.set_cons_succ]
      refine takeL 1 32 (v := .pointer (some ⟨rb, j * 2, none⟩)) rfl rfl (by kernel_rfl) (by kernel_rfl) (by kernel_rfl) (by kernel_rfl) (fun _ _ _ h => h) (Or.inl ⟨by rfl, by (intro W hSw; obtain ⟨s1, s2, s3⟩ := CE.out W hSw; go_simp)⟩) hHeld ?_
      simp only [List.setIfInBounds_toArray, List.set_cons_zero, List.set_cons_succ]
      refine takeL 2 33 (v := .pointer (some ⟨rb, j * 2, none⟩)) rfl rfl (by kernel_rfl) (by kernel_rfl) (by kernel_rfl) (by kernel_rfl) (fun _ _ _ h => h) (Or.inl ⟨by rfl, by (intro W hSw; obtain ⟨s1, s2, s3⟩ := CE.out W hSw; go_simp)⟩) hHeld ?_
      simp only [List.setIfInBounds_toArray, List.set_cons_zero, List.set_cons_succ]
      refine takeL 3 34 (v := .string e.key) rfl rfl (by kernel_rfl) (by kernel_rfl) (by kernel_rfl) (by kernel_rfl) (fun _ _ _ h => h) (Or.inl ⟨by rfl, by (intro W hSw; obtain ⟨s1, s2, s3⟩ := CE.out W hSw; go_simp)⟩) hHeld ?_
      simp only [List.setIfInBounds_toArray, List.set_cons_zero, List.set_cons_succ]
      refine takeL 5 36 (v := .pointer (some ⟨rb, j * 2, none⟩)) rfl rfl (by kernel_rfl) (by kernel_rfl) (by kernel_rfl) (by kernel_rfl) (fun _ _ _ h => h) (Or.inl ⟨by rfl, by (intro W hSw; obtain ⟨s1, s2, s3⟩ := CE.out W hSw; go_simp)⟩) hHeld ?_
      simp only [List.setIfInBounds_toArray, List.set_cons_zero, List.set_cons_succ]
      refine takeL 6 37 (v := .pointer (some ⟨rb, j * 2, none⟩)) rfl rfl (by kernel_rfl) (by kernel_rfl) (by kernel_rfl) (by kernel_rfl) (fun _ _ _ h => h) (Or.inl ⟨by rfl, by (intro W hSw; obtain ⟨s1, s2, s3⟩ := CE.out W hSw; go_simp)⟩) hHeld ?_
      simp only [List.setIfInBounds_toArray, List.set_cons_zero, List.set_cons_succ]
      refine takeL 7 38 (v := .pointer (some ⟨rb, j * 2 + 1, none⟩)) rfl rfl (by kernel_rfl) (by kernel_rfl) (by kernel_rfl) (by kernel_rfl) (fun _ _ _ h => h) (Or.inl ⟨by rfl, by (intro W hSw; obtain ⟨s1, s2, s3⟩ := CE.out W hSw; go_simp)⟩) hHeld ?_
      simp only [List.setIfInBounds_toArray, List.set_cons_zero, List.set_cons_succ]
      refine takeL 8 39 (v := .int .i64 e.n) rfl rfl (by kernel_rfl) (by kernel_rfl) (by kernel_rfl) (by kernel_rfl) (fun _ _ _ h => h) (Or.inl ⟨by rfl, by (intro W hSw; obtain ⟨s1, s2, s3⟩ := CE.out W hSw; go_simp)⟩) hHeld ?_
      simp only [List.setIfInBounds_toArray, List.set_cons_zero, List.set_cons_succ]
      refine anyL_one 4 (by kernel_rfl) (upL rfl (fun K hK => ?_))
      go_simp
      refine (clone_any e.key _ hks).mono ?_
      rintro e' w5 ⟨rfl, fb5⟩
      have hC5 := below2 hD5 fb5
      go_simp
      refine hK.out _ _ (fun _ => hHeld.trans (Fr.of_below (F := fun _ => False) fb5) (fun _ _ g => g.elim)) (fun hHeld0 => ?_)
      have hHeld := hHeld0 (by decide)
      clear hHeld0 hK K
      (try simp only [Act.put, List.setIfInBounds_toArray, List.set_cons_zero, List.set_cons_succ])
      obtain ⟨x1, x2, x3⟩ := CX.out _ hC5
      obtain ⟨p1, f1⟩ := cell_obj (j := 0) x1
      obtain ⟨p2, f2⟩ := cell_obj (j := 0) x2
      obtain ⟨p3, f3⟩ := cell_obj (j := 0) x3
      refine anyL_one 9 (by kernel_rfl) (upL rfl (fun K hK => ?_))
      go_simp
      refine hK.out _ _ (fun _ => Fr.set (p := ⟨w.heap.size, 0, none⟩) hHeld (Or.inl (Or.inl rfl)) _) (fun hHeld0 => ?_)
      have hHeld := hHeld0 (by decide)
      clear hHeld0 hK K
      (try simp only [Act.put, List.setIfInBounds_toArray, List.set_cons_zero, List.set_cons_succ])
      refine anyL_one 10 (by kernel_rfl) (upL rfl (fun K hK => ?_))
      go_simp
      refine hK.out _ _ (fun _ => Fr.set (p := ⟨w.heap.size + 1, 0, none⟩) hHeld (Or.inl (Or.inr (Or.inl rfl))) _) (fun hHeld0 => ?_)
      have hHeld := hHeld0 (by decide)
      clear hHeld0 hK K
      (try simp only [Act.put, List.setIfInBounds_toArray, List.set_cons_zero, List.set_cons_succ])
      refine anyL_one 11 (by kernel_rfl) (upL rfl (fun K hK => ?_))
      go_simp
      refine hK.out _ _ (fun q => absurd rfl q) (fun _ => ?_)
      clear hK K
      (try simp only [Act.put, List.setIfInBounds_toArray, List.set_cons_zero, List.set_cons_succ])
      refine anyL_done (by kernel_rfl) ?_ _
      have r1 := heap_setCell_same w5 w.heap.size 0 _ _ (.string e.key) x1
      have r2 := heap_setCell_same (w5.setCell ⟨w.heap.size, 0, none⟩ (.string e.key)) (w.heap.size + 1) 0 _ _ (.int .i64 e.n) ((set_other (by omega)).trans x2)
      have r3 := heap_setCell_same ((w5.setCell ⟨w.heap.size, 0, none⟩ (.string e.key)).setCell ⟨w.heap.size + 1, 0, none⟩ (.int .i64 e.n)) (w.heap.size + 1 + 1) 0 _ _ (.bool true) (((set_other (by omega)).trans (set_other (by omega))).trans x3)
      have fF : Fr (fun k => k = w.heap.size ∨ k = w.heap.size + 1 ∨ k = w.heap.size + 1 + 1) W (((w5.setCell ⟨w.heap.size, 0, none⟩ (.string e.key)).setCell ⟨w.heap.size + 1, 0, none⟩ (.int .i64 e.n)).setCell ⟨w.heap.size + 1 + 1, 0, none⟩ (.bool true)) := Fr.set (p := ⟨w.heap.size + 1 + 1, 0, none⟩) (Fr.set (p := ⟨w.heap.size + 1, 0, none⟩) (Fr.set (p := ⟨w.heap.size, 0, none⟩) (HW5.out.trans (Fr.of_below (F := fun _ => False) hC5) (fun _ _ q => q.elim)) (Or.inl (Or.inl rfl)) _) (Or.inl (Or.inr (Or.inl rfl))) _) (Or.inl (Or.inr (Or.inr rfl))) _
      clear p1 p2 p3 f1 f2 f3 x1 x2 x3
      gi_wp2
      refine ⟨⟨fF.size, fun k o hk ho _ => (fF.block k (Array.getElem?_eq_some_iff.1 ho).1 (fun q => by omega)).trans ho⟩, rfl, ⟨e, hat, ?_, ?_, ?_⟩, fF.below hbWW' (by omega) (fun k q => by omega)⟩
      · rw [set_other (by omega), set_other (by omega)]; exact r1
      · rw [set_other (by omega)]; exact r2
      · exact r3
  · -- nothing there
    rintro D W hD ⟨hbJ, hJ⟩ hK
    rw [Nat.sub_zero, hzl, List.drop_length] at hJ
    have hN : beL key L = none := hJ
    have hJs := hbJ.size
    have x1 := (hbJ.block _ (by omega)).trans hz1
    have x2 := (hbJ.block _ (by omega)).trans hz2
    have x3 := (hbJ.block _ (by omega)).trans hz3
    obtain ⟨p1, f1⟩ := cell_obj (j := 0) x1
    obtain ⟨p2, f2⟩ := cell_obj (j := 0) x2
    obtain ⟨p3, f3⟩ := cell_obj (j := 0) x3
    have hDl := (Array.getElem?_eq_some_iff.1 hK).1
    have hbWW := hbW.trans (hbJ.mono hbW.size)
    clear hz1 hz2 hz3 hrow4 hzs hz hnx hbB hzl
    gi_wp2
    have r1 := heap_setCell_same W w.heap.size 0 _ _ (.string ⟨#[]⟩) x1
    have r2 := heap_setCell_same (W.setCell ⟨w.heap.size, 0, none⟩ (.string ⟨#[]⟩)) (w.heap.size + 1) 0 _ _ (.int .i64 0) ((set_other (by omega)).trans x2)
    have r3 := heap_setCell_same ((W.setCell ⟨w.heap.size, 0, none⟩ (.string ⟨#[]⟩)).setCell ⟨w.heap.size + 1, 0, none⟩ (.int .i64 0)) (w.heap.size + 1 + 1) 0 _ _ (.bool false) (((set_other (by omega)).trans (set_other (by omega))).trans x3)
    have fF : Fr (fun k => k = w.heap.size ∨ k = w.heap.size + 1 ∨ k = w.heap.size + 1 + 1) W (((W.setCell ⟨w.heap.size, 0, none⟩ (.string ⟨#[]⟩)).setCell ⟨w.heap.size + 1, 0, none⟩ (.int .i64 0)).setCell ⟨w.heap.size + 1 + 1, 0, none⟩ (.bool false)) := Fr.set (p := ⟨w.heap.size + 1 + 1, 0, none⟩) (Fr.set (p := ⟨w.heap.size + 1, 0, none⟩) (Fr.set (p := ⟨w.heap.size, 0, none⟩) (Fr.refl _ _) (Or.inl (Or.inl rfl)) _) (Or.inl (Or.inr (Or.inl rfl))) _) (Or.inl (Or.inr (Or.inr rfl))) _
    have k1 := (set_other (b := w.heap.size + 1 + 1) (o := 0) (v := .bool false) (w := (W.setCell ⟨w.heap.size, 0, none⟩ (.string ⟨#[]⟩)).setCell ⟨w.heap.size + 1, 0, none⟩ (.int .i64 0)) (k := w.heap.size) (by omega)).trans ((set_other (by omega)).trans r1)
    have k2 := (set_other (b := w.heap.size + 1 + 1) (o := 0) (v := .bool false) (w := (W.setCell ⟨w.heap.size, 0, none⟩ (.string ⟨#[]⟩)).setCell ⟨w.heap.size + 1, 0, none⟩ (.int .i64 0)) (k := w.heap.size + 1) (by omega)).trans r2
    have hKF := (fF.block D hDl (by rintro (q | q | q) <;> omega)).trans hK
    have hbF := fF.below hbWW (by omega) (fun k q => by omega)
    generalize ((W.setCell ⟨w.heap.size, 0, none⟩ (.string ⟨#[]⟩)).setCell ⟨w.heap.size + 1, 0, none⟩ (.int .i64 0)).setCell ⟨w.heap.size + 1 + 1, 0, none⟩ (.bool false) = WF at *
    refine ⟨by simp, .inl ⟨_, _, rfl, run_takeDeferred hKF, ?_⟩⟩
    have j1 := (cell_obj (j := 0) ((World.putObj_heap_other (w := WF) (r := D) (o := .deferred none) (k := w.heap.size) (by omega)).trans k1)).1
    have j2 := (cell_obj (j := 0) ((World.putObj_heap_other (w := WF) (r := D) (o := .deferred none) (k := w.heap.size + 1) (by omega)).trans k2)).1
    have j3 := (cell_obj (j := 0) ((World.putObj_heap_other (w := WF) (r := D) (o := .deferred none) (k := w.heap.size + 1 + 1) (by omega)).trans r3)).1
    refine ⟨.tuple (nearV (beL key L)).toArray, ?_, rfl, below_putObj hbF (by omega)⟩
    rw [hN]
    simp [results, Try.results28, go_sem, j1, j2, j3, nearV]
  · rintro D c W hD ⟨rfl, ⟨e, e1, e2, e3, e4⟩, hbX⟩ hK
    gi_wp2
    refine ⟨by simp, .inl ⟨_, _, rfl, run_takeDeferred hK, ?_⟩⟩
    have k1 := (cell_obj (j := 0) ((World.putObj_heap_other (w := W) (r := D) (o := .deferred none) (k := w.heap.size) (by omega)).trans e2)).1
    have k2 := (cell_obj (j := 0) ((World.putObj_heap_other (w := W) (r := D) (o := .deferred none) (k := w.heap.size + 1) (by omega)).trans e3)).1
    have k3 := (cell_obj (j := 0) ((World.putObj_heap_other (w := W) (r := D) (o := .deferred none) (k := w.heap.size + 1 + 1) (by omega)).trans e4)).1
    refine ⟨.tuple (nearV (beL key L)).toArray, ?_, rfl, below_putObj hbX (by omega)⟩
    rw [e1]
    simp [results, Try.results28, go_sem, k1, k2, k3, nearV]
end

end Go.Proofs.Ytkfoddblgdmabaa.tr

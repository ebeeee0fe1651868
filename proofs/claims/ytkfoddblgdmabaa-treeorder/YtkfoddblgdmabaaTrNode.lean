/- Layer 10: a node's insert. -/
import Derived.Test.YtkfoddblgdmabaaTrTake
namespace Go.Proofs.Ytkfoddblgdmabaa.tr
open Go.RowKit

/-- One entry in a block of its own; one node's address. -/
theorem one_newE (U : World) (x : Ent) : RowE (U.alloc (.cells #[.string x.key, .int .i64 x.n] 58)) 0 (.slice (some ⟨U.heap.size, 0, none⟩) 1 1) [x] :=
  GRow.of_obj (l := [x]) (c := 1) gE_len (heap_alloc_new U _) (Nat.zero_le _) (Nat.le_refl _) (by decide) rfl rfl
theorem one_newK (U : World) (k : Nat) : RowK (U.alloc (.cells #[.pointer (some ⟨k, 0, none⟩)] 65)) 0 (.slice (some ⟨U.heap.size, 0, none⟩) 1 1) [k] :=
  GRow.of_obj (l := [k]) (c := 1) gK_len (heap_alloc_new U _) (Nat.zero_le _) (Nat.le_refl _) (by decide) rfl rfl
theorem set_other {w : World} {b o k : Nat} {v : Value} (h : k ≠ b) : (w.setCell ⟨b, o, none⟩ v).heap[k]? = w.heap[k]? := Below.heap_setCell _ _ _ _ h
theorem Mp.put_put (M : Mp) (b : Nat) (n n' : Nr) : (M.put b n).put b n' = M.put b n' := by
  funext x
  unfold Mp.put
  split <;> rfl
/-- The kids, with one more behind a place; an end has none. -/
def insK (i rb : Nat) (ks : List Nat) : List Nat := if ks = [] then [] else insL (i + 1) rb ks
theorem hide {p : Prop} (h : p) : Hid p := h
theorem Fr.row {α : Type} {T : TypeId} {sz : Nat} {g : α → List Value} {w U : World} {B : Nat} {F : Nat → Prop} {v : Value} {l : List α} (f : Fr F w U) (h : GRow T sz g w B v l) (hF : ∀ k, v.ownBlock = some k → ¬ F k) : GRow T sz g U B v l := h.kept (fun k e => f.block k (h.blk e).2 (hF k e))

section
variable {w : World} {B : Nat} {M : Mp} {b : Nat} {n : Nr}

set_option maxHeartbeats 3200000 in
set_option maxRecDepth 100000 in
theorem ninsert_any (m : Mm w B M) (hB : B ≤ w.heap.size) (hn : M b = some n) (hlen : n.es.length ≤ 80000) (x : Ent) (i : Nat) (hi : i ≤ n.es.length) (rb : Nat) (rv : Value) (hk : n.ks = [] ∨ (n.ks ≠ [] ∧ n.ks.length = n.es.length + 1 ∧ rv = .pointer (some ⟨rb, 0, none⟩))) : Calls Try.prog 45 #[.pointer (some ⟨b, 0, none⟩), .int .i64 (i : Int), .agg #[.string x.key, .int .i64 x.n], rv] w fun e w' => e = .returned (.tuple #[]) ∧ ∃ ev' kv', Mm w' B (M.put b ⟨ev', kv', insL i x n.es, insK i rb n.ks⟩) ∧ To w M w' (M.put b ⟨ev', kv', insL i x n.es, insK i rb n.ks⟩) := by
  go_enter Try.func45, Try.ntmps45
  go_wp2_with fail
  have hW := below_alloc1 w (.cells #[.string x.key, .int .i64 x.n] 58)
  have m1 := m.below hW
  have hB1 : B ≤ (w.alloc (.cells #[.string x.key, .int .i64 x.n] 58)).heap.size := Nat.le_trans hB hW.size
  have cx0 : (w.alloc (.cells #[.string x.key, .int .i64 x.n] 58)).heap[w.heap.size]? = some (.cells #[.string x.key, .int .i64 x.n] 58 (0, 0)) := heap_alloc_new w _
  have HT0 : Hid (To w M (w.alloc (.cells #[.string x.key, .int .i64 x.n] 58)) M) := To.of_below hW
  have HB2 : Hid (∀ k, n.ev.ownBlock = some k → k ≠ w.heap.size) := fun k e q => by have := ((m.ents _ _ hn).blk e).2; omega
  generalize w.alloc (.cells #[.string x.key, .int .i64 x.n] 58) = W1 at *
  generalize w.heap.size = xb at *
  have HM : Hid (Mm W1 B M) := m1
  have HXb : Hid (xb < W1.heap.size) := (Array.getElem?_eq_some_iff.1 cx0).1
  have CE : Hid (∀ U, Fr (fun k => n.ev.ownBlock = some k) W1 U → U.cell? ⟨b, 0, none⟩ = some n.ev ∧ U.cell? ⟨xb, 0, none⟩ = some (.string x.key) ∧ U.cell? ⟨xb, 1, none⟩ = some (.int .i64 x.n)) := fun U f => by
    have t := (f.block b (m1.lt ⟨b, n, hn, Or.inl rfl⟩).2 (fun e => (m1.evK hn hn e).2 rfl)).trans (m1.top b n hn).1
    have q := (f.block xb HXb.out (fun e => HB2.out xb e rfl)).trans cx0
    exact ⟨(ncell t).1, (cell_obj q).1.trans rfl, (cell_obj q).1.trans rfl⟩
  have hS0 : Fr (fun k => n.ev.ownBlock = some k) W1 W1.drew := (Fr.refl _ _).drew
  have HB : Hid (B ≤ W1.heap.size) := hB1
  have HTop : Hid (∀ U, Fr (fun k => n.ev.ownBlock = some k) W1 U → U.heap[b]? = some (nobj n.ev n.kv)) := fun U f => (f.block b (m1.lt ⟨b, n, hn, Or.inl rfl⟩).2 (fun e => (m1.evK hn hn e).2 rfl)).trans (m1.top b n hn).1
  clear m m1 hW cx0 hB hB1
  refine anyL_begin (S := fun U => Fr (fun k => n.ev.ownBlock = some k) W1 U) (n := 11) (by kernel_rfl) (hS0) (fun hHeld => ?_)
  have hD : Below W1.heap.size W1 W1.drew := (Below.refl _ _).drew
  generalize W1.drew = W1d at hD hHeld ⊢
  refine takeL 0 8 (v := .pointer (some ⟨b, 0, none⟩)) rfl rfl (by kernel_rfl) (by kernel_rfl) (by kernel_rfl) (by kernel_rfl) (fun _ _ _ h => h) (Or.inl ⟨by rfl, by (intro W hSw; obtain ⟨s1, s2, s3⟩ := CE.out W hSw; go_simp)⟩) hHeld ?_
  simp only [List.setIfInBounds_toArray, List.set_cons_zero, List.set_cons_succ]
  refine takeL 1 9 (v := .pointer (some ⟨b, 0, none⟩)) rfl rfl (by kernel_rfl) (by kernel_rfl) (by kernel_rfl) (by kernel_rfl) (fun _ _ _ h => h) (Or.inl ⟨by rfl, by (intro W hSw; obtain ⟨s1, s2, s3⟩ := CE.out W hSw; go_simp)⟩) hHeld ?_
  simp only [List.setIfInBounds_toArray, List.set_cons_zero, List.set_cons_succ]
  refine takeL 2 10 (v := .pointer (some ⟨b, 0, none⟩)) rfl rfl (by kernel_rfl) (by kernel_rfl) (by kernel_rfl) (by kernel_rfl) (fun _ _ _ h => h) (Or.inl ⟨by rfl, by (intro W hSw; obtain ⟨s1, s2, s3⟩ := CE.out W hSw; go_simp)⟩) hHeld ?_
  simp only [List.setIfInBounds_toArray, List.set_cons_zero, List.set_cons_succ]
  refine takeL 3 11 (v := .pointer (some ⟨b, 0, none⟩)) rfl rfl (by kernel_rfl) (by kernel_rfl) (by kernel_rfl) (by kernel_rfl) (fun _ _ _ h => h) (Or.inl ⟨by rfl, by (intro W hSw; obtain ⟨s1, s2, s3⟩ := CE.out W hSw; go_simp)⟩) hHeld ?_
  simp only [List.setIfInBounds_toArray, List.set_cons_zero, List.set_cons_succ]
  refine takeL 4 12 (v := n.ev) rfl rfl (by kernel_rfl) (by kernel_rfl) (by kernel_rfl) (by kernel_rfl) (fun _ _ _ h => h) (Or.inl ⟨by rfl, by (intro W hSw; obtain ⟨s1, s2, s3⟩ := CE.out W hSw; go_simp)⟩) hHeld ?_
  simp only [List.setIfInBounds_toArray, List.set_cons_zero, List.set_cons_succ]
  refine takeL 5 13 (v := .int .i64 (i : Int)) rfl rfl (by kernel_rfl) (by kernel_rfl) (by kernel_rfl) (by kernel_rfl) (fun _ _ _ h => h) (Or.inl ⟨by rfl, by (intro W hSw; obtain ⟨s1, s2, s3⟩ := CE.out W hSw; go_simp)⟩) hHeld ?_
  simp only [List.setIfInBounds_toArray, List.set_cons_zero, List.set_cons_succ]
  refine takeL 6 14 (v := .agg #[.string x.key, .int .i64 x.n]) rfl rfl (by kernel_rfl) (by kernel_rfl) (by kernel_rfl) (by kernel_rfl) (fun _ _ _ h => h) (Or.inl ⟨by rfl, by (intro W hSw; obtain ⟨s1, s2, s3⟩ := CE.out W hSw; go_simp)⟩) hHeld ?_
  simp only [List.setIfInBounds_toArray, List.set_cons_zero, List.set_cons_succ]
  refine anyL_one 7 (by kernel_rfl) (upL rfl (fun K hK => ?_))
  go_simp
  have fA := hHeld.alloc (.cells #[.string x.key, .int .i64 x.n] 58)
  have rv1 := one_newE W1d x
  have hvb : n.ev.ownBlock ≠ some W1d.heap.size := fun e => by have h1 := ((HM.out.ents _ _ hn).blk e).2; have h2 := hHeld.size; omega
  have hvc := insE_any (((HM.out.ents _ _ hn).below' hD).below' (below_alloc1 _ _)) x hi (by omega) rv1 hvb (Nat.le_trans HB.out fA.size)
  refine hK.out _ _ (fun _ => fA) (fun hHeld0 => ?_)
  have hHeld := hHeld0 (by decide)
  clear hHeld0 hK K
  (try simp only [Act.put, List.setIfInBounds_toArray, List.set_cons_zero, List.set_cons_succ])
  refine anyL_one 8 (by kernel_rfl) (upL rfl (fun K hK => ?_))
  go_simp
  refine hvc.mono ?_
  rintro e w2 ⟨v2, rfl, row2, fr2, new2⟩
  have fB : Fr (fun k => n.ev.ownBlock = some k) W1 w2 := fA.trans fr2 (fun _ _ g => g)
  refine hK.out _ _ (fun _ => fB) (fun hHeld0 => ?_)
  have hHeld := hHeld0 (by decide)
  clear hHeld0 hK K
  (try simp only [Act.put, List.setIfInBounds_toArray, List.set_cons_zero, List.set_cons_succ])
  refine anyL_one 9 (by kernel_rfl) (upL rfl (fun K hK => ?_))
  go_simp
  refine hK.out _ _ (fun _ => hHeld) (fun hHeld0 => ?_)
  have hHeld := hHeld0 (by decide)
  clear hHeld0 hK K
  (try simp only [Act.put, List.setIfInBounds_toArray, List.set_cons_zero, List.set_cons_succ])
  refine anyL_one 10 (by kernel_rfl) (upL rfl (fun K hK => ?_))
  go_simp
  refine hK.out _ _ (fun _ => hHeld) (fun hHeld0 => ?_)
  have hHeld := hHeld0 (by decide)
  clear hHeld0 hK K
  (try simp only [Act.put, List.setIfInBounds_toArray, List.set_cons_zero, List.set_cons_succ])
  have top2 := HTop.out _ hHeld
  obtain ⟨t0, _, t2, _⟩ := ncell top2
  obtain ⟨a2, c2, rfl, _, _⟩ := row2.len
  refine anyL_one 11 (by kernel_rfl) (upL rfl (fun K hK => ?_))
  go_simp
  refine hK.out _ _ (fun q => absurd rfl q) (fun _ => ?_)
  clear hK K
  (try simp only [Act.put, List.setIfInBounds_toArray, List.set_cons_zero, List.set_cons_succ])
  refine anyL_done (by kernel_rfl) ?_ _
  have hk2 : RowK w2 B n.kv n.ks := hHeld.row (HM.out.kids _ _ hn) (fun k e1 e2 => (HM.out.evK hn hn e2).1 e1)
  have top3 := nset0 (v := .slice a2 (insL i x n.es).length c2) top2
  have hne : ∀ k, (Value.slice a2 (insL i x n.es).length c2).ownBlock = some k → k ≠ b := fun k e q => by
    obtain ⟨cu, qc⟩ := row_obj row2 e
    rw [q, top2] at qc
    simp [nobj] at qc
  have upd := HM.out.upd hn (n' := ⟨.slice a2 (insL i x n.es).length c2, n.kv, insL i x n.es, n.ks⟩) (w' := w2.setCell ⟨b, 0, none⟩ (.slice a2 (insL i x n.es).length c2)) (Fr.set (F := Fn b n) (p := ⟨b, 0, none⟩) (hHeld.weak (fun k _ e => Or.inr (Or.inl e))) (Or.inl (Or.inl rfl)) _) top3 (row2.kept (fun k e => set_other (hne k e))) (hk2.kept (fun k e => set_other (HM.out.kvB hn hn e))) (fun k e => (new2 k e).imp_right (fun g => Nat.le_trans (Nat.le_trans hD.size (by simp)) g)) (fun k e => Or.inl e)
  have HU := hide upd
  rcases hk with h0 | ⟨h0, h1, rfl⟩
  · have hend := end_yes upd.1 (Mp.put_same _ _ _) h0
    clear upd
    go_wp2_with ((try go_at_call 39); refine hend.mono ?_; rintro e w3 ⟨rfl, rfl⟩)
    go_end0
    refine ⟨rfl, .slice a2 (insL i x n.es).length c2, n.kv, ?_⟩
    have e : insK i rb n.ks = n.ks := by rw [insK, if_pos h0, h0]
    rw [e]
    exact ⟨HU.out.1, HT0.out.trans HU.out.2⟩
  · have hend := end_no upd.1 (Mp.put_same _ _ _) h0
    generalize w2.setCell ⟨b, 0, none⟩ (.slice a2 (insL i x n.es).length c2) = W3 at *
    obtain ⟨n1, hn1⟩ : ∃ n1 : Nr, n1 = ⟨.slice a2 (insL i x n.es).length c2, n.kv, insL i x n.es, n.ks⟩ := ⟨_, rfl⟩
    have hp1 : (M.put b n1) b = some n1 := Mp.put_same _ _ _
    rw [← hn1] at upd
    have e1 : n1.kv = n.kv := by rw [hn1]
    have e2 : n1.ks = n.ks := by rw [hn1]
    have m3 := upd.1
    obtain ⟨_, k1, _, k3⟩ := ncell (m3.top b n1 hp1).1
    rw [e1] at k1
    have hB3 : B ≤ W3.heap.size := Nat.le_trans HB.out upd.2.fr.size
    have HM3 : Hid (Mm W3 B (M.put b n1) ∧ To W1 M W3 (M.put b n1)) := upd
    have HE : Hid (n1.ev = .slice a2 (insL i x n.es).length c2 ∧ n1.kv = n.kv ∧ n1.es = insL i x n.es ∧ n1.ks = n.ks) := by rw [hn1]; exact ⟨rfl, rfl, rfl, rfl⟩
    have hwr : IntKind.i64.wrap ((i : Int) + 1) = (i : Int) + 1 := by rw [IntKind.wrap_i64]; omega
    have hKi := insK_any ((((HM3.out.1.kids b n1 hp1).below' (below_alloc1 W3 (.cells #[.pointer (some ⟨rb, 0, none⟩)] 65))))) rb (i := i + 1) (by rw [e2, h1]; omega) (by rw [e2, h1]; omega) (one_newK W3 rb) (fun e => by have := ((HM3.out.1.kids b n1 hp1).blk e).2; omega) (Nat.le_trans hB3 (below_alloc1 W3 _).size)
    rw [e1, e2, show ((i + 1 : Nat) : Int) = (i : Int) + 1 by omega] at hKi
    have ht3 := (m3.top b n1 hp1).1
    have HKn : Hid (∀ k, n.kv.ownBlock = some k → k ≠ b) := fun k e => HM.out.kvB hn hn e
    have HT5 : Hid (∀ U, Fr (fun k => n.kv.ownBlock = some k) (W3.alloc (.cells #[.pointer (some ⟨rb, 0, none⟩)] 65)) U → U.heap[b]? = some (nobj n1.ev n1.kv)) := fun U f => (f.block b (Nat.lt_of_lt_of_le (Array.getElem?_eq_some_iff.1 ht3).1 (below_alloc1 _ _).size) (fun e => HKn.out b e rfl)).trans (((below_alloc1 W3 (.cells #[.pointer (some ⟨rb, 0, none⟩)] 65)).block b (Array.getElem?_eq_some_iff.1 ht3).1).trans ht3)
    clear ht3 upd m3 HU hn1 e1 e2 hB3 top3 top2 t0 t2 hne hk2 row2 new2 fr2 fA fB hHeld hD hvc hvb rv1 h1 hi hlen hS0
    go_wp2_with (first | (go_at_call 39; refine hend.mono ?_; clear hend; rintro e w4 ⟨rfl, h4⟩; rw [h4]; clear h4 w4) | ((try go_at_call 60); refine hKi.mono ?_; rintro e w5 ⟨v5, rfl, row5, fr5, new5⟩; have top5 := HT5.out _ fr5; obtain ⟨_, u1, _, u3⟩ := ncell top5; obtain ⟨a5, c5, rfl, _, _⟩ := row5.len))
    have fA3 : Fr (fun k => n.kv.ownBlock = some k) W3 w5 := (Fr.of_below (F := fun k => n.kv.ownBlock = some k) (below_alloc1 W3 (.cells #[.pointer (some ⟨rb, 0, none⟩)] 65))).trans fr5 (fun _ _ e => e)
    have f5 : Fr (Fn b n1) W3 w5 := fA3.weak (fun k _ e => Or.inr (Or.inr (by rw [HE.out.2.1]; exact e)))
    have re5 : RowE w5 B n1.ev (insL i x n.es) := by
      have q := HM3.out.1.ents b n1 hp1
      rw [HE.out.2.2.1] at q
      exact fA3.row q (fun k e1 e2 => (HM3.out.1.evK hp1 hp1 e1).1 (by rw [HE.out.2.1]; exact e2))
    have upd5 := HM3.out.1.upd hp1 (n' := ⟨n1.ev, .slice a5 (insL (i + 1) rb n.ks).length c5, insL i x n.es, insL (i + 1) rb n.ks⟩) (w' := w5.setCell ⟨b, 1, none⟩ (.slice a5 (insL (i + 1) rb n.ks).length c5)) (Fr.set (F := Fn b n1) (p := ⟨b, 1, none⟩) f5 (Or.inl (Or.inl rfl)) _) (nset1 top5) (re5.kept (fun k e => set_other (fun q => (HM3.out.1.evK hp1 hp1 e).2 q))) (row5.kept (fun k e => set_other (fun q => by
      obtain ⟨cu, qc⟩ := row_obj row5 e
      rw [q, top5] at qc
      simp [nobj] at qc))) (fun k e => Or.inl e) (fun k e => (new5 k e).imp (fun g => by rw [HE.out.2.1]; exact g) (fun g => Nat.le_trans (below_alloc1 _ _).size g))
    rw [Mp.put_put] at upd5
    go_end0
    refine ⟨rfl, n1.ev, .slice a5 (insL (i + 1) rb n.ks).length c5, ?_⟩
    have e : insK i rb n.ks = insL (i + 1) rb n.ks := by rw [insK, if_neg h0]
    rw [e]
    exact ⟨upd5.1, (HT0.out.trans HM3.out.2).trans upd5.2⟩
  end
  
  end Go.Proofs.Ytkfoddblgdmabaa.tr

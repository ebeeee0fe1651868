/- Layer 10: a node's split. -/
import Derived.Test.YtkfoddblgdmabaaTrUpd
namespace Go.Proofs.Ytkfoddblgdmabaa.tr
open Go.RowKit

theorem Mp.put_comm (M : Mp) {a b : Nat} {x y : Nr} (h : a ≠ b) : (M.put a x).put b y = (M.put b y).put a x := by
  funext z
  unfold Mp.put
  by_cases h1 : z = b
  · subst h1
    simp [Ne.symm h]
  · simp [h1]

theorem res_set {W : World} {x : Nat} {k : ByteArray} {v : Int} {a b : Value} (h : W.heap[x]? = some (.cells #[a, b] 58 (0, 0))) : ((W.setCell ⟨x, 0, none⟩ (.string k)).setCell ⟨x, 1, none⟩ (.int .i64 v)).cell? ⟨x, 0, none⟩ = some (.string k) ∧ ((W.setCell ⟨x, 0, none⟩ (.string k)).setCell ⟨x, 1, none⟩ (.int .i64 v)).cell? ⟨x, 1, none⟩ = some (.int .i64 v) := by
  have h1 := heap_setCell_same _ x 1 _ _ (.int .i64 v) (heap_setCell_same W x 0 _ _ (.string k) h)
  exact ⟨(cell_obj h1).1.trans rfl, (cell_obj h1).1.trans rfl⟩

section
variable {w : World} {B : Nat} {M : Mp} {b : Nat} {n : Nr}

set_option maxHeartbeats 3200000 in
set_option maxRecDepth 100000 in
theorem split_any (m : Mm w B M) (hB : B ≤ w.heap.size) (hn : M b = some n) (hlen : n.es.length ≤ 80000) {hf : Nat} (hhf : n.es.length / 2 = hf) (h3 : 3 ≤ n.es.length) (hk : n.ks = [] ∨ n.ks.length = n.es.length + 1) {y : Ent} (hy : n.es[hf]? = some y) : Calls Try.prog 47 #[.pointer (some ⟨b, 0, none⟩)] w fun e w' => ∃ r nl nr, e = .returned (.tuple #[.agg #[.string y.key, .int .i64 y.n], .pointer (some ⟨r, 0, none⟩)]) ∧ M r = none ∧ nl.es = n.es.take hf ∧ nl.ks = n.ks.take (hf + 1) ∧ nr.es = n.es.drop (hf + 1) ∧ nr.ks = n.ks.drop (hf + 1) ∧ Mm w' B ((M.put b nl).put r nr) ∧ To w M w' ((M.put b nl).put r nr) := by
  obtain ⟨rb, rc, e1, hlc, hcm, hrb, d0, d1, _, _⟩ := m.ent hn hy
  have t0 := (m.top b n hn).1
  have hbs : b < w.heap.size := (Array.getElem?_eq_some_iff.1 t0).1
  obtain ⟨c0, c1, f0, f1⟩ := ncell t0
  rw [e1] at c0
  have hdiv : (n.es.length : Int).tdiv 2 = (hf : Int) := by rw [← hhf]; exact (Int.ofNat_tdiv n.es.length 2).symm
  have hfl : (hf : Int) < (n.es.length : Int) := by omega
  have hfl2 : hf + 1 < n.es.length := by omega
  have hcm' := hcm
  unfold maxLen at hcm'
  have hrc : ¬ (rc = hf + 1) := by omega
  have HM : Hid (Mm w B M) := m
  have HBw : Hid (B ≤ w.heap.size) := hB
  have HE1 : Hid (n.ev = .slice (some ⟨rb, 0, none⟩) n.es.length rc) := e1
  have hW2 : Below w.heap.size w ((w.alloc (.cells #[.string ⟨#[]⟩, .int .i64 0] 58)).alloc (.cells #[.string y.key, .int .i64 y.n] 58)) := below2 (below_alloc1 _ _) (below_alloc1 _ _)
  have m2 := m.below hW2
  have hrow : RowE ((w.alloc (.cells #[.string ⟨#[]⟩, .int .i64 0] 58)).alloc (.cells #[.string y.key, .int .i64 y.n] 58)) B (.slice (some ⟨rb, 0, none⟩) n.es.length rc) n.es := by rw [← e1]; exact m2.ents b n hn
  have HQ : Hid (((w.alloc (.cells #[.string ⟨#[]⟩, .int .i64 0] 58)).alloc (.cells #[.string y.key, .int .i64 y.n] 58)).heap[w.heap.size]? = some (.cells #[.string ⟨#[]⟩, .int .i64 0] 58) ∧ ((w.alloc (.cells #[.string ⟨#[]⟩, .int .i64 0] 58)).alloc (.cells #[.string y.key, .int .i64 y.n] 58)).heap[w.heap.size + 1]? = some (.cells #[.string y.key, .int .i64 y.n] 58) ∧ ((w.alloc (.cells #[.string ⟨#[]⟩, .int .i64 0] 58)).alloc (.cells #[.string y.key, .int .i64 y.n] 58)).heap.size = w.heap.size + 2) := by
    refine ⟨?_, ?_, by simp⟩
    · rw [heap_alloc_old _ _ (by simp), heap_alloc_new]
    · have := heap_alloc_new (w.alloc (.cells #[.string ⟨#[]⟩, .int .i64 0] 58)) (.cells #[.string y.key, .int .i64 y.n] 58)
      rw [World.size_alloc] at this
      exact this
  have hcl := cloneE_tail hrow (by omega) (i := hf + 1) (by omega) (rc - (hf + 1)) ((hf + 1) * 2) (Or.inl rfl)
  obtain ⟨ED, hED⟩ : ∃ ED, n.es.drop (hf + 1) = ED := ⟨_, rfl⟩
  have HED : Hid (n.es.drop (hf + 1) = ED) := hED
  rw [hED] at hcl
  clear m hB e1 t0 hhf hlc hcm hED
  go_enter Try.func47, Try.ntmps47
  go_wp2_with ((try go_at_call 52); refine hcl.mono ?_; rintro e w3 ⟨v3, rfl, row3, hb3⟩; obtain ⟨a3, c3, rfl, _, _⟩ := row3.len)
  -- the new node
  generalize hW2e : (w.alloc (.cells #[.string ⟨#[]⟩, .int .i64 0] 58)).alloc (.cells #[.string y.key, .int .i64 y.n] 58) = W2 at *
  generalize hXb : w.heap.size = xb at *
  have m3 := m2.below hb3
  obtain ⟨nr0, hnr0⟩ : ∃ nr0 : Nr, nr0 = ⟨.slice a3 ED.length c3, .slice none 0 0, ED, []⟩ := ⟨_, rfl⟩
  obtain ⟨r, hr⟩ : ∃ r, w3.heap.size = r := ⟨_, rfl⟩
  have hB2 : B ≤ W2.heap.size := Nat.le_trans HBw.out (by rw [HQ.out.2.2]; omega)
  have hn3 := m2.new (n' := nr0) (w' := w3.alloc (nobj (.slice a3 ED.length c3) (.slice none 0 0))) (b := r) (below2 hb3 (below_alloc1 _ _)) (by rw [← hr]; exact hb3.size) hB2 (by rw [← hr, hnr0]; exact heap_alloc_new _ _) (by rw [hnr0]; exact row3.below' (below_alloc1 _ _)) (by rw [hnr0]; exact grow_nil _ _ _ _ _)
  have hrb2 : r ≠ b := fun q => by
    have := (m3.lt ⟨b, n, hn, Or.inl rfl⟩).2
    omega
  have HN3 : Hid (Mm (w3.alloc (nobj (.slice a3 ED.length c3) (.slice none 0 0))) B (M.put r nr0) ∧ To W2 M (w3.alloc (nobj (.slice a3 ED.length c3) (.slice none 0 0))) (M.put r nr0) ∧ M r = none) := hn3
  have HQ3 : Hid ((w3.alloc (nobj (.slice a3 ED.length c3) (.slice none 0 0))).heap[xb]? = some (.cells #[.string ⟨#[]⟩, .int .i64 0] 58) ∧ (w3.alloc (nobj (.slice a3 ED.length c3) (.slice none 0 0))).heap[xb + 1]? = some (.cells #[.string y.key, .int .i64 y.n] 58)) := by
    have hz := hb3.size
    obtain ⟨q1, q2, q3⟩ := HQ.out
    exact ⟨(heap_alloc_old _ _ (by omega)).trans ((hb3.block xb (by omega)).trans q1), (heap_alloc_old _ _ (by omega)).trans ((hb3.block (xb + 1) (by omega)).trans q2)⟩
  have HNR : Hid (nr0.ev = .slice a3 ED.length c3 ∧ nr0.kv = .slice none 0 0 ∧ nr0.es = ED ∧ nr0.ks = []) := by rw [hnr0]; exact ⟨rfl, rfl, rfl, rfl⟩
  have HXR : Hid (W2.heap.size ≤ r) := by rw [← hr]; exact hb3.size
  have HXE : Hid (xb + 1 < W2.heap.size ∧ xb ≤ W2.heap.size) := ⟨by rw [HQ.out.2.2]; omega, by rw [HQ.out.2.2]; omega⟩
  have HTo2 : Hid (To w M W2 M) := To.of_below (by rw [hXb]; exact hW2)
  show Code.wp _ _ _ _ (w3.alloc (nobj (.slice a3 ED.length c3) (.slice none 0 0)))
  generalize w3.alloc (nobj (.slice a3 ED.length c3) (.slice none 0 0)) = W4 at *
  clear hn3 hnr0 hW2 hW2e m2 hrow hb3 row3 hcl c0 c1 f0 f1 d0 d1
  rw [hr]
  have hnM : (M.put r nr0) b = some n := by rw [Mp.put_other _ _ (Ne.symm hrb2)]; exact hn
  have HT4 : Hid (∀ U, Fr (fun k => n.ev.ownBlock = some k) W4 U → U.heap[b]? = some (nobj n.ev n.kv)) := fun U f => HN3.out.1.top2 hnM f
  have CE : Hid (∀ U, Fr (fun k => n.ev.ownBlock = some k) W4 U → U.cell? ⟨b, 0, none⟩ = some (.slice (some ⟨rb, 0, none⟩) n.es.length rc) ∧ True) := fun U f => by
    obtain ⟨q, _⟩ := ncell (HT4.out U f)
    exact ⟨by rw [q, HE1.out], trivial⟩
  have hrow4 : RowE W4 B (.slice (some ⟨rb, 0, none⟩) n.es.length rc) n.es := by rw [← HE1.out]; exact HN3.out.1.ents b n hnM
  have hS0 : Fr (fun k => n.ev.ownBlock = some k) W4 W4.drew := (Fr.refl _ _).drew
  refine anyL_begin (S := fun U => Fr (fun k => n.ev.ownBlock = some k) W4 U) (n := 14) (by kernel_rfl) (hS0) (fun hHeld => ?_)
  have hD : Below W4.heap.size W4 W4.drew := (Below.refl _ _).drew
  generalize W4.drew = W4d at hD hHeld ⊢
  refine takeL 0 30 (v := .pointer (some ⟨b, 0, none⟩)) rfl rfl (by kernel_rfl) (by kernel_rfl) (by kernel_rfl) (by kernel_rfl) (fun _ _ _ h => h) (Or.inl ⟨by rfl, by (intro W hSw; obtain ⟨s1, _⟩ := CE.out W hSw; go_simp)⟩) hHeld ?_
  simp only [List.setIfInBounds_toArray, List.set_cons_zero, List.set_cons_succ]
  refine takeL 1 31 (v := .pointer (some ⟨b, 0, none⟩)) rfl rfl (by kernel_rfl) (by kernel_rfl) (by kernel_rfl) (by kernel_rfl) (fun _ _ _ h => h) (Or.inl ⟨by rfl, by (intro W hSw; obtain ⟨s1, _⟩ := CE.out W hSw; go_simp)⟩) hHeld ?_
  simp only [List.setIfInBounds_toArray, List.set_cons_zero, List.set_cons_succ]
  refine takeL 2 32 (v := .pointer (some ⟨b, 0, none⟩)) rfl rfl (by kernel_rfl) (by kernel_rfl) (by kernel_rfl) (by kernel_rfl) (fun _ _ _ h => h) (Or.inl ⟨by rfl, by (intro W hSw; obtain ⟨s1, _⟩ := CE.out W hSw; go_simp)⟩) hHeld ?_
  simp only [List.setIfInBounds_toArray, List.set_cons_zero, List.set_cons_succ]
  refine takeL 3 33 (v := .pointer (some ⟨b, 0, none⟩)) rfl rfl (by kernel_rfl) (by kernel_rfl) (by kernel_rfl) (by kernel_rfl) (fun _ _ _ h => h) (Or.inl ⟨by rfl, by (intro W hSw; obtain ⟨s1, _⟩ := CE.out W hSw; go_simp)⟩) hHeld ?_
  simp only [List.setIfInBounds_toArray, List.set_cons_zero, List.set_cons_succ]
  refine takeL 4 34 (v := .slice (some ⟨rb, 0, none⟩) n.es.length rc) rfl rfl (by kernel_rfl) (by kernel_rfl) (by kernel_rfl) (by kernel_rfl) (fun _ _ _ h => h) (Or.inl ⟨by rfl, by (intro W hSw; obtain ⟨s1, _⟩ := CE.out W hSw; go_simp)⟩) hHeld ?_
  simp only [List.setIfInBounds_toArray, List.set_cons_zero, List.set_cons_succ]
  refine takeL 5 35 (v := .int .i64 (hf : Int)) rfl rfl (by kernel_rfl) (by kernel_rfl) (by kernel_rfl) (by kernel_rfl) (fun _ _ _ h => h) (Or.inl ⟨by rfl, by (intro W hSw; obtain ⟨s1, _⟩ := CE.out W hSw; go_simp)⟩) hHeld ?_
  simp only [List.setIfInBounds_toArray, List.set_cons_zero, List.set_cons_succ]
  refine takeL 6 36 (v := .pointer (some ⟨b, 0, none⟩)) rfl rfl (by kernel_rfl) (by kernel_rfl) (by kernel_rfl) (by kernel_rfl) (fun _ _ _ h => h) (Or.inl ⟨by rfl, by (intro W hSw; obtain ⟨s1, _⟩ := CE.out W hSw; go_simp)⟩) hHeld ?_
  simp only [List.setIfInBounds_toArray, List.set_cons_zero, List.set_cons_succ]
  refine takeL 7 37 (v := .pointer (some ⟨b, 0, none⟩)) rfl rfl (by kernel_rfl) (by kernel_rfl) (by kernel_rfl) (by kernel_rfl) (fun _ _ _ h => h) (Or.inl ⟨by rfl, by (intro W hSw; obtain ⟨s1, _⟩ := CE.out W hSw; go_simp)⟩) hHeld ?_
  simp only [List.setIfInBounds_toArray, List.set_cons_zero, List.set_cons_succ]
  refine takeL 8 38 (v := .pointer (some ⟨b, 0, none⟩)) rfl rfl (by kernel_rfl) (by kernel_rfl) (by kernel_rfl) (by kernel_rfl) (fun _ _ _ h => h) (Or.inl ⟨by rfl, by (intro W hSw; obtain ⟨s1, _⟩ := CE.out W hSw; go_simp)⟩) hHeld ?_
  simp only [List.setIfInBounds_toArray, List.set_cons_zero, List.set_cons_succ]
  refine takeL 9 39 (v := .slice (some ⟨rb, 0, none⟩) n.es.length rc) rfl rfl (by kernel_rfl) (by kernel_rfl) (by kernel_rfl) (by kernel_rfl) (fun _ _ _ h => h) (Or.inl ⟨by rfl, by (intro W hSw; obtain ⟨s1, _⟩ := CE.out W hSw; go_simp)⟩) hHeld ?_
  simp only [List.setIfInBounds_toArray, List.set_cons_zero, List.set_cons_succ]
  refine takeL 10 40 (v := .int .i64 (n.es.length : Int)) rfl rfl (by kernel_rfl) (by kernel_rfl) (by kernel_rfl) (by kernel_rfl) (fun _ _ _ h => h) (Or.inl ⟨by rfl, by (intro W hSw; obtain ⟨s1, _⟩ := CE.out W hSw; go_simp)⟩) hHeld ?_
  simp only [List.setIfInBounds_toArray, List.set_cons_zero, List.set_cons_succ]
  refine anyL_one 11 (by kernel_rfl) (upL rfl (fun K hK => ?_))
  go_simp
  refine (delE_any (hrow4.below' hD) hf n.es.length (by omega) (Nat.le_refl _) (by omega)).mono ?_
  rintro e w5 ⟨v5, rfl, row5, fr5, own5⟩
  rw [← HE1.out] at fr5 own5
  have fB : Fr (fun k => n.ev.ownBlock = some k) W4 w5 := hHeld.trans fr5 (fun _ _ g => g)
  rw [List.drop_length, List.append_nil] at row5
  refine hK.out _ _ (fun _ => fB) (fun hHeld0 => ?_)
  have hHeld := hHeld0 (by decide)
  clear hHeld0 hK K
  (try simp only [Act.put, List.setIfInBounds_toArray, List.set_cons_zero, List.set_cons_succ])
  refine anyL_one 12 (by kernel_rfl) (upL rfl (fun K hK => ?_))
  go_simp
  refine hK.out _ _ (fun _ => hHeld) (fun hHeld0 => ?_)
  have hHeld := hHeld0 (by decide)
  clear hHeld0 hK K
  (try simp only [Act.put, List.setIfInBounds_toArray, List.set_cons_zero, List.set_cons_succ])
  refine anyL_one 13 (by kernel_rfl) (upL rfl (fun K hK => ?_))
  go_simp
  refine hK.out _ _ (fun _ => hHeld) (fun hHeld0 => ?_)
  have hHeld := hHeld0 (by decide)
  clear hHeld0 hK K
  (try simp only [Act.put, List.setIfInBounds_toArray, List.set_cons_zero, List.set_cons_succ])
  have top5 := HT4.out _ hHeld
  obtain ⟨t0, _, t2, _⟩ := ncell top5
  obtain ⟨EL, hEL⟩ : ∃ EL, n.es.take hf = EL := ⟨_, rfl⟩
  have HEL : Hid (n.es.take hf = EL) := hEL
  rw [hEL] at row5
  clear hEL
  obtain ⟨a5, c5, rfl, _, _⟩ := row5.len
  refine anyL_one 14 (by kernel_rfl) (upL rfl (fun K hK => ?_))
  go_simp
  refine hK.out _ _ (fun q => absurd rfl q) (fun _ => ?_)
  clear hK K
  (try simp only [Act.put, List.setIfInBounds_toArray, List.set_cons_zero, List.set_cons_succ])
  refine anyL_done (by kernel_rfl) ?_ _
  have up5 := HN3.out.1.ents' hnM hHeld row5 (fun k e => Or.inl (by rw [← own5]; exact e))
  have HX5 : Hid ((w5.setCell ⟨b, 0, none⟩ (.slice a5 EL.length c5)).heap[xb]? = some (.cells #[.string ⟨#[]⟩, .int .i64 0] 58) ∧ (w5.setCell ⟨b, 0, none⟩ (.slice a5 EL.length c5)).heap[xb + 1]? = some (.cells #[.string y.key, .int .i64 y.n] 58)) := by
    obtain ⟨q1, q2⟩ := HQ3.out
    have hl1 := (Array.getElem?_eq_some_iff.1 q1).1
    have hl2 := (Array.getElem?_eq_some_iff.1 q2).1
    refine ⟨(set_other (fun q => ?_)).trans ((hHeld.block xb hl1 (fun e => ?_)).trans q1), (set_other (fun q => ?_)).trans ((hHeld.block (xb + 1) hl2 (fun e => ?_)).trans q2)⟩
    · omega
    · have := ((HM.out.ents b n hn).blk e).2
      omega
    · omega
    · have := ((HM.out.ents b n hn).blk e).2
      omega
  obtain ⟨n2, hn2⟩ : ∃ n2 : Nr, n2 = ⟨.slice a5 EL.length c5, n.kv, EL, n.ks⟩ := ⟨_, rfl⟩
  have hp2 : ((M.put r nr0).put b n2) b = some n2 := Mp.put_same _ _ _
  rw [← hn2] at up5
  have HN2 : Hid (n2.ev = .slice a5 EL.length c5 ∧ n2.kv = n.kv ∧ n2.es = EL ∧ n2.ks = n.ks) := by rw [hn2]; exact ⟨rfl, rfl, rfl, rfl⟩
  generalize w5.setCell ⟨b, 0, none⟩ (.slice a5 EL.length c5) = W6 at *
  have HU5 : Hid (Mm W6 B ((M.put r nr0).put b n2) ∧ To W4 (M.put r nr0) W6 ((M.put r nr0).put b n2)) := up5
  have HTw : Hid (To w M W6 ((M.put r nr0).put b n2)) := (HTo2.out.trans HN3.out.2.1).trans up5.2
  have HO : Hid (¬ Ft ((M.put r nr0).put b n2) xb) := fun h => by
    have hx := HXE.out
    have hz := HN3.out.2.1.fr.size
    rcases up5.2.ft _ h with h | h
    · rcases HN3.out.2.1.ft _ h with h | h
      · have := (HM.out.lt h).2
        omega
      · omega
    · omega
  have hx6 := HX5.out
  obtain ⟨z0, zf0⟩ := cell_obj (j := 0) hx6.1
  obtain ⟨z1, zf1⟩ := cell_obj (j := 1) hx6.1
  obtain ⟨y0, yf0⟩ := cell_obj (j := 0) hx6.2
  obtain ⟨y1, yf1⟩ := cell_obj (j := 1) hx6.2
  have x0 : W6.cell? ⟨xb, 0, none⟩ = some (.string ⟨#[]⟩) := z0.trans rfl
  have x1 : W6.cell? ⟨xb, 1, none⟩ = some (.int .i64 0) := z1.trans rfl
  have x2 : W6.cell? ⟨xb + 1, 0, none⟩ = some (.string y.key) := y0.trans rfl
  have x3 : W6.cell? ⟨xb + 1, 1, none⟩ = some (.int .i64 y.n) := y1.trans rfl
  clear z0 z1 y0 y1 hx6 yf0 yf1
  have e2 : n2.ks = n.ks := by rw [hn2]
  have e3 : n2.kv = n.kv := by rw [hn2]
  clear up5 hn2 row5 fr5 own5 fB hHeld hD t0 t2 top5 hrow4 hS0
  rcases hk with h0 | hk
  · have hend := end_yes HU5.out.1 hp2 (by rw [e2, h0])
    clear e2 e3
    go_wp2_with ((try go_at_call 39); refine hend.mono ?_; rintro e w6 ⟨rfl, h6⟩; rw [h6]; clear h6 w6)
    have hT2 := (HTw.out.new (x := xb) (o := 0) (v := .string y.key) (Nat.le_of_eq hXb)).new (x := xb) (o := 1) (v := .int .i64 y.n) (Nat.le_of_eq hXb)
    have hM2 := (HU5.out.1.out (x := xb) (o := 0) (v := .string y.key) HO.out).out (x := xb) (o := 1) (v := .int .i64 y.n) HO.out
    have hcm : (M.put r nr0).put b n2 = (M.put b n2).put r nr0 := Mp.put_comm M hrb2
    rw [hcm] at hT2 hM2
    have ho := res_set (k := y.key) (v := y.n) HX5.out.1
    generalize (W6.setCell ⟨xb, 0, none⟩ (.string y.key)).setCell ⟨xb, 1, none⟩ (.int .i64 y.n) = W9 at *
    obtain ⟨q0, q1⟩ := ho
    refine bodyPost_ret (v := .tuple #[.agg #[.string y.key, .int .i64 y.n], .pointer (some ⟨r, 0, none⟩)]) (by simp [results, Try.results47, go_sem, q0, q1]) rfl ⟨r, n2, nr0, rfl, HN3.out.2.2, HN2.out.2.2.1.trans HEL.out.symm, ?_, HNR.out.2.2.1.trans HED.out.symm, ?_, hM2, hT2⟩
    · rw [HN2.out.2.2.2, h0]; rfl
    · rw [HNR.out.2.2.2, h0]; rfl
  · have hend := end_no HU5.out.1 hp2 (by rw [e2]; intro q; rw [q] at hk; simp at hk)
    have hpr : ((M.put r nr0).put b n2) r = some nr0 := by rw [Mp.put_other _ _ hrb2, Mp.put_same]
    have hln : n2.ks.length = n.es.length + 1 := by rw [e2]; exact hk
    obtain ⟨kb, kc, ek, hkc, hkm, hkb, hkx⟩ := HU5.out.1.kid hp2 (i := hf + 1) (List.getElem?_eq_getElem (by omega))
    have hkm' := hkm
    unfold maxLen at hkm'
    obtain ⟨_, c1, _, _⟩ := ncell (HU5.out.1.top b n2 hp2).1
    rw [ek, hln] at c1
    have hrowk : RowK W6 B (.slice (some ⟨kb, 0, none⟩) n2.ks.length kc) n2.ks := by rw [← ek]; exact HU5.out.1.kids b n2 hp2
    have hcl := cloneK_tail hrowk (by omega) (i := hf + 1) (by omega) (kc - (hf + 1)) (hf + 1) (Or.inl (by omega))
    obtain ⟨KD, hKD⟩ : ∃ KD, n2.ks.drop (hf + 1) = KD := ⟨_, rfl⟩
    have HKD : Hid (n2.ks.drop (hf + 1) = KD) := hKD
    rw [hKD, hln, show n.es.length + 1 - (hf + 1) = n.es.length - hf by omega] at hcl
    have hkc1 : ¬ (kc = hf + 1) := by omega
    have hkc2 : hf + 1 ≤ n.es.length + 1 := by omega
    have hkc3 : (hf : Int) + 1 ≤ (n.es.length : Int) + 1 := by omega
    have hkc4 : (hf : Int) + 1 ≤ (kc : Int) := by omega
    have HT6 : Hid (∀ U, Below W6.heap.size W6 U → U.heap[r]? = some (nobj nr0.ev nr0.kv)) := fun U hb => (hb.block r (Array.getElem?_eq_some_iff.1 (HU5.out.1.top r nr0 hpr).1).1).trans (HU5.out.1.top r nr0 hpr).1
    have HEK : Hid (n2.kv = .slice (some ⟨kb, 0, none⟩) n2.ks.length kc) := ek
    have HLN : Hid (n2.ks.length = n.es.length + 1) := hln
    clear hkx hKD e2 e3 ek hkc hrowk hln hk
    go_wp2_with (first | (go_at_call 39; refine hend.mono ?_; clear hend; rintro e w6 ⟨rfl, h6⟩; rw [h6]; clear h6 w6) | ((try go_at_call 61); refine hcl.mono ?_; rintro e w7 ⟨v7, rfl, row7, hb7⟩; have t7 := HT6.out _ hb7; obtain ⟨_, u1, _, u3⟩ := ncell t7; obtain ⟨a7, c7, rfl, _, _⟩ := row7.len))
    have up7 := HU5.out.1.kids' hpr (Fr.of_below (F := fun k => nr0.kv.ownBlock = some k) hb7) (row7.mono (by have := HU5.out.2.fr.size; have := HN3.out.2.1.fr.size; omega)) (fun k e => Or.inr (row7.blk e).1)
    have hx7 : (w7.setCell ⟨r, 1, none⟩ (.slice a7 KD.length c7)).heap[xb]? = some (.cells #[.string ⟨#[]⟩, .int .i64 0] 58) ∧ (w7.setCell ⟨r, 1, none⟩ (.slice a7 KD.length c7)).heap[xb + 1]? = some (.cells #[.string y.key, .int .i64 y.n] 58) := by
      obtain ⟨q1, q2⟩ := HX5.out
      have hl1 := (Array.getElem?_eq_some_iff.1 q1).1
      have hl2 := (Array.getElem?_eq_some_iff.1 q2).1
      have hxr := HXE.out
      have hxs := HXR.out
      exact ⟨(set_other (by omega)).trans ((hb7.block xb hl1).trans q1), (set_other (by omega)).trans ((hb7.block (xb + 1) hl2).trans q2)⟩
    obtain ⟨n7, hn7⟩ : ∃ n7 : Nr, n7 = ⟨nr0.ev, .slice a7 KD.length c7, nr0.es, KD⟩ := ⟨_, rfl⟩
    have HN7 : Hid (n7.es = nr0.es ∧ n7.ks = KD) := by rw [hn7]; exact ⟨rfl, rfl⟩
    rw [← hn7] at up7
    have HX7 : Hid ((w7.setCell ⟨r, 1, none⟩ (.slice a7 KD.length c7)).heap[xb]? = some (.cells #[.string ⟨#[]⟩, .int .i64 0] 58) ∧ (w7.setCell ⟨r, 1, none⟩ (.slice a7 KD.length c7)).heap[xb + 1]? = some (.cells #[.string y.key, .int .i64 y.n] 58)) := hx7
    have HU7 : Hid (Mm (w7.setCell ⟨r, 1, none⟩ (.slice a7 KD.length c7)) B (((M.put r nr0).put b n2).put r n7) ∧ To W6 ((M.put r nr0).put b n2) (w7.setCell ⟨r, 1, none⟩ (.slice a7 KD.length c7)) (((M.put r nr0).put b n2).put r n7)) := up7
    generalize w7.setCell ⟨r, 1, none⟩ (.slice a7 KD.length c7) = W7 at *
    clear up7 hx7 hn7 row7 hb7 u1 u3 t7 x0 x1 x2 x3 c1
    have hp7 : (((M.put r nr0).put b n2).put r n7) b = some n2 := by rw [Mp.put_other _ _ (Ne.symm hrb2)]; exact hp2
    have HT8 : Hid (∀ U, Fr (fun k => n2.kv.ownBlock = some k) W7 U → U.heap[b]? = some (nobj n2.ev n2.kv)) := fun U f => HU7.out.1.top3 hp7 f
    have CE : Hid (∀ U, Fr (fun k => n2.kv.ownBlock = some k) W7 U → U.cell? ⟨b, 1, none⟩ = some (.slice (some ⟨kb, 0, none⟩) (n.es.length + 1) kc) ∧ True) := fun U f => by
      obtain ⟨_, q, _⟩ := ncell (HT8.out U f)
      exact ⟨by rw [q, HEK.out, HLN.out], trivial⟩
    have hrow7 : RowK W7 B (.slice (some ⟨kb, 0, none⟩) n2.ks.length kc) n2.ks := by rw [← HEK.out]; exact HU7.out.1.kids b n2 hp7
    have hwr : IntKind.i64.wrap ((hf : Int) + 1) = (hf : Int) + 1 := by rw [IntKind.wrap_i64]; omega
    have hS0 : Fr (fun k => n2.kv.ownBlock = some k) W7 W7.drew := (Fr.refl _ _).drew
    refine anyL_begin (S := fun U => Fr (fun k => n2.kv.ownBlock = some k) W7 U) (n := 15) (by kernel_rfl) (hS0) (fun hHeld => ?_)
    have hD : Below W7.heap.size W7 W7.drew := (Below.refl _ _).drew
    generalize W7.drew = W7d at hD hHeld ⊢
    refine takeL 0 58 (v := .pointer (some ⟨b, 0, none⟩)) rfl rfl (by kernel_rfl) (by kernel_rfl) (by kernel_rfl) (by kernel_rfl) (fun _ _ _ h => h) (Or.inl ⟨by rfl, by (intro W hSw; obtain ⟨s1, _⟩ := CE.out W hSw; go_simp)⟩) hHeld ?_
    simp only [List.setIfInBounds_toArray, List.set_cons_zero, List.set_cons_succ]
    refine takeL 1 59 (v := .pointer (some ⟨b, 0, none⟩)) rfl rfl (by kernel_rfl) (by kernel_rfl) (by kernel_rfl) (by kernel_rfl) (fun _ _ _ h => h) (Or.inl ⟨by rfl, by (intro W hSw; obtain ⟨s1, _⟩ := CE.out W hSw; go_simp)⟩) hHeld ?_
    simp only [List.setIfInBounds_toArray, List.set_cons_zero, List.set_cons_succ]
    refine takeL 2 60 (v := .pointer (some ⟨b, 0, none⟩)) rfl rfl (by kernel_rfl) (by kernel_rfl) (by kernel_rfl) (by kernel_rfl) (fun _ _ _ h => h) (Or.inl ⟨by rfl, by (intro W hSw; obtain ⟨s1, _⟩ := CE.out W hSw; go_simp)⟩) hHeld ?_
    simp only [List.setIfInBounds_toArray, List.set_cons_zero, List.set_cons_succ]
    refine takeL 3 61 (v := .pointer (some ⟨b, 1, none⟩)) rfl rfl (by kernel_rfl) (by kernel_rfl) (by kernel_rfl) (by kernel_rfl) (fun _ _ _ h => h) (Or.inl ⟨by rfl, by (intro W hSw; obtain ⟨s1, _⟩ := CE.out W hSw; go_simp)⟩) hHeld ?_
    simp only [List.setIfInBounds_toArray, List.set_cons_zero, List.set_cons_succ]
    refine takeL 4 62 (v := .slice (some ⟨kb, 0, none⟩) (n.es.length + 1) kc) rfl rfl (by kernel_rfl) (by kernel_rfl) (by kernel_rfl) (by kernel_rfl) (fun _ _ _ h => h) (Or.inl ⟨by rfl, by (intro W hSw; obtain ⟨s1, _⟩ := CE.out W hSw; go_simp)⟩) hHeld ?_
    simp only [List.setIfInBounds_toArray, List.set_cons_zero, List.set_cons_succ]
    refine takeL 5 63 (v := .int .i64 (hf : Int)) rfl rfl (by kernel_rfl) (by kernel_rfl) (by kernel_rfl) (by kernel_rfl) (fun _ _ _ h => h) (Or.inl ⟨by rfl, by (intro W hSw; obtain ⟨s1, _⟩ := CE.out W hSw; go_simp)⟩) hHeld ?_
    simp only [List.setIfInBounds_toArray, List.set_cons_zero, List.set_cons_succ]
    refine takeL 6 64 (v := .int .i64 ((hf : Int) + 1)) rfl rfl (by kernel_rfl) (by kernel_rfl) (by kernel_rfl) (by kernel_rfl) (fun _ _ _ h => h) (Or.inl ⟨by rfl, by (intro W hSw; obtain ⟨s1, _⟩ := CE.out W hSw; go_simp)⟩) hHeld ?_
    simp only [List.setIfInBounds_toArray, List.set_cons_zero, List.set_cons_succ]
    refine takeL 7 65 (v := .pointer (some ⟨b, 0, none⟩)) rfl rfl (by kernel_rfl) (by kernel_rfl) (by kernel_rfl) (by kernel_rfl) (fun _ _ _ h => h) (Or.inl ⟨by rfl, by (intro W hSw; obtain ⟨s1, _⟩ := CE.out W hSw; go_simp)⟩) hHeld ?_
    simp only [List.setIfInBounds_toArray, List.set_cons_zero, List.set_cons_succ]
    refine takeL 8 66 (v := .pointer (some ⟨b, 0, none⟩)) rfl rfl (by kernel_rfl) (by kernel_rfl) (by kernel_rfl) (by kernel_rfl) (fun _ _ _ h => h) (Or.inl ⟨by rfl, by (intro W hSw; obtain ⟨s1, _⟩ := CE.out W hSw; go_simp)⟩) hHeld ?_
    simp only [List.setIfInBounds_toArray, List.set_cons_zero, List.set_cons_succ]
    refine takeL 9 67 (v := .pointer (some ⟨b, 1, none⟩)) rfl rfl (by kernel_rfl) (by kernel_rfl) (by kernel_rfl) (by kernel_rfl) (fun _ _ _ h => h) (Or.inl ⟨by rfl, by (intro W hSw; obtain ⟨s1, _⟩ := CE.out W hSw; go_simp)⟩) hHeld ?_
    simp only [List.setIfInBounds_toArray, List.set_cons_zero, List.set_cons_succ]
    refine takeL 10 68 (v := .slice (some ⟨kb, 0, none⟩) (n.es.length + 1) kc) rfl rfl (by kernel_rfl) (by kernel_rfl) (by kernel_rfl) (by kernel_rfl) (fun _ _ _ h => h) (Or.inl ⟨by rfl, by (intro W hSw; obtain ⟨s1, _⟩ := CE.out W hSw; go_simp)⟩) hHeld ?_
    simp only [List.setIfInBounds_toArray, List.set_cons_zero, List.set_cons_succ]
    refine takeL 11 69 (v := .int .i64 ((n.es.length : Int) + 1)) rfl rfl (by kernel_rfl) (by kernel_rfl) (by kernel_rfl) (by kernel_rfl) (fun _ _ _ h => h) (Or.inl ⟨by rfl, by (intro W hSw; obtain ⟨s1, _⟩ := CE.out W hSw; go_simp)⟩) hHeld ?_
    simp only [List.setIfInBounds_toArray, List.set_cons_zero, List.set_cons_succ]
    refine anyL_one 12 (by kernel_rfl) (upL rfl (fun K hK => ?_))
    go_simp
    have hdl := delK_any (hrow7.below' hD) (hf + 1) n2.ks.length (by rw [HLN.out]; omega) (Nat.le_refl _) (by rw [HLN.out]; omega)
    rw [HLN.out, show ((hf + 1 : Nat) : Int) = (hf : Int) + 1 by omega, show ((n.es.length + 1 : Nat) : Int) = (n.es.length : Int) + 1 by omega] at hdl
    refine hdl.mono ?_
    rintro e w8 ⟨v8, rfl, row8, fr8, own8⟩
    rw [← HLN.out, ← HEK.out] at fr8 own8
    have fB : Fr (fun k => n2.kv.ownBlock = some k) W7 w8 := hHeld.trans fr8 (fun _ _ g => g)
    rw [← HLN.out, List.drop_length, List.append_nil] at row8
    clear hdl
    refine hK.out _ _ (fun _ => fB) (fun hHeld0 => ?_)
    have hHeld := hHeld0 (by decide)
    clear hHeld0 hK K
    (try simp only [Act.put, List.setIfInBounds_toArray, List.set_cons_zero, List.set_cons_succ])
    refine anyL_one 13 (by kernel_rfl) (upL rfl (fun K hK => ?_))
    go_simp
    refine hK.out _ _ (fun _ => hHeld) (fun hHeld0 => ?_)
    have hHeld := hHeld0 (by decide)
    clear hHeld0 hK K
    (try simp only [Act.put, List.setIfInBounds_toArray, List.set_cons_zero, List.set_cons_succ])
    refine anyL_one 14 (by kernel_rfl) (upL rfl (fun K hK => ?_))
    go_simp
    refine hK.out _ _ (fun _ => hHeld) (fun hHeld0 => ?_)
    have hHeld := hHeld0 (by decide)
    clear hHeld0 hK K
    (try simp only [Act.put, List.setIfInBounds_toArray, List.set_cons_zero, List.set_cons_succ])
    have top8 := HT8.out _ hHeld
    obtain ⟨_, t1, _, t3⟩ := ncell top8
    obtain ⟨KL, hKL⟩ : ∃ KL, n2.ks.take (hf + 1) = KL := ⟨_, rfl⟩
    have HKL : Hid (n2.ks.take (hf + 1) = KL) := hKL
    rw [hKL] at row8
    clear hKL
    obtain ⟨a8, c8, rfl, _, _⟩ := row8.len
    refine anyL_one 15 (by kernel_rfl) (upL rfl (fun K hK => ?_))
    go_simp
    refine hK.out _ _ (fun q => absurd rfl q) (fun _ => ?_)
    clear hK K
    (try simp only [Act.put, List.setIfInBounds_toArray, List.set_cons_zero, List.set_cons_succ])
    refine anyL_done (by kernel_rfl) ?_ _
    have up8 := HU7.out.1.kids' hp7 hHeld row8 (fun k e => Or.inl (by rw [← own8]; exact e))
    have hx8 : (w8.setCell ⟨b, 1, none⟩ (.slice a8 KL.length c8)).heap[xb]? = some (.cells #[.string ⟨#[]⟩, .int .i64 0] 58) ∧ (w8.setCell ⟨b, 1, none⟩ (.slice a8 KL.length c8)).heap[xb + 1]? = some (.cells #[.string y.key, .int .i64 y.n] 58) := by
      obtain ⟨q1, q2⟩ := HX7.out
      have hl1 := (Array.getElem?_eq_some_iff.1 q1).1
      have hl2 := (Array.getElem?_eq_some_iff.1 q2).1
      have hkv : ∀ k, n2.kv.ownBlock = some k → k < xb := fun k e => by
        have := ((HM.out.kids b n hn).blk (k := k) (by rw [← HN2.out.2.1]; exact e)).2
        omega
      exact ⟨(set_other (by omega)).trans ((hHeld.block xb hl1 (fun e => by have := hkv _ e; omega)).trans q1), (set_other (by omega)).trans ((hHeld.block (xb + 1) hl2 (fun e => by have := hkv _ e; omega)).trans q2)⟩
    obtain ⟨n8, hn8⟩ : ∃ n8 : Nr, n8 = ⟨n2.ev, .slice a8 KL.length c8, n2.es, KL⟩ := ⟨_, rfl⟩
    have HN8 : Hid (n8.es = n2.es ∧ n8.ks = KL) := by rw [hn8]; exact ⟨rfl, rfl⟩
    rw [← hn8] at up8
    have hT8 := (HTw.out.trans HU7.out.2).trans up8.2
    have hO8 : ¬ Ft ((((M.put r nr0).put b n2).put r n7).put b n8) xb := fun h => by
      have hx := HXE.out
      have z1 := HTo2.out.fr.size
      have z2 := HN3.out.2.1.fr.size
      have z3 := HU5.out.2.fr.size
      have z4 := HU7.out.2.fr.size
      rcases up8.2.ft _ h with h | h
      · rcases HU7.out.2.ft _ h with h | h
        · exact HO.out h
        · omega
      · omega
    have hM8 := up8.1
    generalize w8.setCell ⟨b, 1, none⟩ (.slice a8 KL.length c8) = W9 at *
    obtain ⟨y0, yf0⟩ := cell_obj (j := 0) hx8.2
    obtain ⟨y1, yf1⟩ := cell_obj (j := 1) hx8.2
    obtain ⟨z0, zf0⟩ := cell_obj (j := 0) hx8.1
    obtain ⟨z1, zf1⟩ := cell_obj (j := 1) hx8.1
    have x0 : W9.cell? ⟨xb, 0, none⟩ = some (.string ⟨#[]⟩) := z0.trans rfl
    have x1 : W9.cell? ⟨xb, 1, none⟩ = some (.int .i64 0) := z1.trans rfl
    have x2 : W9.cell? ⟨xb + 1, 0, none⟩ = some (.string y.key) := y0.trans rfl
    have x3 : W9.cell? ⟨xb + 1, 1, none⟩ = some (.int .i64 y.n) := y1.trans rfl
    have hx9 := hx8.1
    clear z0 z1 y0 y1 hx8 up8 hn8 row8 fr8 own8 fB hHeld hD hwr t1 t3 top8
    go_wp2_with fail
    have hT2 := (hT8.new (x := xb) (o := 0) (v := .string y.key) (Nat.le_of_eq hXb)).new (x := xb) (o := 1) (v := .int .i64 y.n) (Nat.le_of_eq hXb)
    have hM2 := (hM8.out (x := xb) (o := 0) (v := .string y.key) hO8).out (x := xb) (o := 1) (v := .int .i64 y.n) hO8
    have hcm : (((M.put r nr0).put b n2).put r n7).put b n8 = (M.put b n8).put r n7 := by
      rw [Mp.put_comm (M.put r nr0) (Ne.symm hrb2), Mp.put_put, Mp.put_put, Mp.put_comm M hrb2]
    rw [hcm] at hT2 hM2
    have ho := res_set (k := y.key) (v := y.n) hx9
    generalize (W9.setCell ⟨xb, 0, none⟩ (.string y.key)).setCell ⟨xb, 1, none⟩ (.int .i64 y.n) = WF at *
    obtain ⟨q0, q1⟩ := ho
    refine bodyPost_ret (v := .tuple #[.agg #[.string y.key, .int .i64 y.n], .pointer (some ⟨r, 0, none⟩)]) (by simp [results, Try.results47, go_sem, q0, q1]) rfl ⟨r, n8, n7, rfl, HN3.out.2.2, HN8.out.1.trans (HN2.out.2.2.1.trans HEL.out.symm), HN8.out.2.trans ?_, HN7.out.1.trans (HNR.out.2.2.1.trans HED.out.symm), HN7.out.2.trans ?_, hM2, hT2⟩
    · rw [← HKL.out, HN2.out.2.2.2]
    · rw [← HKD.out, HN2.out.2.2.2]
    end
    
    end Go.Proofs.Ytkfoddblgdmabaa.tr

/- Layer 10: Range. -/
import Derived.Test.YtkfoddblgdmabaaTrRise
namespace Go.Proofs.Ytkfoddblgdmabaa.tr
open Go.RowKit Go.Shelf

attribute [local go_sem] Oper.semAt_some

/-- Is an entry taken no more? -/
def cut (to : ByteArray) (most : Int) (k : Nat) (x : Ent) : Prop := most ≤ (k : Int) ∨ (¬ to.toList = [] ∧ ltS x.key to = false)
noncomputable def cutB (to : ByteArray) (most : Int) (k : Nat) (x : Ent) : Bool := decide (most ≤ (k : Int)) || (!to.toList.isEmpty && !ltS x.key to)
theorem cutB_iff (to : ByteArray) (most : Int) (k : Nat) (x : Ent) : cutB to most k x = true ↔ cut to most k x := by
  unfold cutB cut
  simp
/-- As many as are wanted, below a key. -/
noncomputable def tk (to : ByteArray) (most : Int) : List Ent → List Ent → List Ent
  | acc, [] => acc
  | acc, x :: xs => if cutB to most acc.length x then acc else tk to most (acc ++ [x]) xs

theorem zip1 (a : Nat) (x : Value) : (#[a] : Array Nat).zip #[x] = #[(a, x)] := by simp
theorem row_grown {W W' : World} {B : Nat} {v : Value} {l : List Ent} (h : RowE W B v l) {row : Option Nat} (hg : W.grownBy W' row) (hr : ∀ r, row = some r → ∃ o : Obj, W.heap[r]? = some o ∧ o.isCells = false) : RowE W' B v l :=
  h.kept (fun k e => hg.block k (h.blk e).2 (fun q => by
    obtain ⟨o, h1, h2⟩ := hr k q.symm
    obtain ⟨c, h3⟩ := row_obj h e
    rw [h1] at h3; cases h3; cases h2))

/-- What goes through the rounds of Range. -/
structure Rg (w : World) (B5 : Nat) (to : ByteArray) (most : Int) (pre : List Ent) (W : World) : Prop where
  ex : ∃ v, W.heap[w.heap.size]? = some (.cells #[.string to] 9 (0, 0)) ∧ W.heap[w.heap.size + 1]? = some (.cells #[.int .i64 most] 3 (0, 0)) ∧ W.heap[w.heap.size + 1 + 1]? = some (.cells #[v] 45 (0, 0)) ∧ RowE W B5 v pre
  bw : Below w.heap.size w W
  sz : w.heap.size + 5 = B5 ∧ B5 ≤ W.heap.size
theorem Rg.grown {w W W' : World} {B5 : Nat} {to : ByteArray} {most : Int} {pre : List Ent} (r : Rg w B5 to most pre W) {row : Option Nat} (hg : W.grownBy W' row) (hr : ∀ r, row = some r → B5 ≤ r ∧ ∃ o : Obj, W.heap[r]? = some o ∧ o.isCells = false) : Rg w B5 to most pre W' := by
  obtain ⟨⟨v, h1, h2, h3, h4⟩, hb, hz, hz2⟩ := r
  have hs : ∀ j, j < 3 → W'.heap[w.heap.size + j]? = W.heap[w.heap.size + j]? := fun j hj => hg.block _ (by omega) (fun q => by have := (hr _ q.symm).1; omega)
  exact ⟨⟨v, (hs 0 (by omega)).trans h1, (hs 1 (by omega)).trans h2, (hs 2 (by omega)).trans h3, row_grown h4 hg (fun r q => (hr r q).2)⟩, hb.grown hg hb.size (fun k e => by have := (hr k e).1; omega), hz, Nat.le_trans hz2 hg.size⟩
theorem Rg.below {w W W' : World} {B5 : Nat} {to : ByteArray} {most : Int} {pre : List Ent} (r : Rg w B5 to most pre W) (hb : Below W.heap.size W W') : Rg w B5 to most pre W' := by
  obtain ⟨⟨v, h1, h2, h3, h4⟩, hb0, hz, hz2⟩ := r
  exact ⟨⟨v, (hb.block _ (by omega)).trans h1, (hb.block _ (by omega)).trans h2, (hb.block _ (by omega)).trans h3, h4.below' hb⟩, hb0.trans (hb.mono hb0.size), hz, Nat.le_trans hz2 hb.size⟩

theorem cut_no1 {to : ByteArray} {most : Int} {k : Nat} {x : Ent} (h1 : (k : Int) < most) (h2 : to.toList = []) : ¬ cut to most k x := by
  rintro (q | ⟨q, _⟩)
  · omega
  · exact q h2
theorem cut_no2 {to : ByteArray} {most : Int} {k : Nat} {x : Ent} (h : (k : Int) < most ∧ ((!to.toList.isEmpty) = false ∨ (!Op.bytesLess x.key.toList to.toList) = false)) (h2 : ¬ to.toList = []) : ¬ cut to most k x := by
  rintro (q | ⟨_, q⟩)
  · omega
  · rcases h.2 with h | h
    · simp [List.isEmpty_iff] at h
      exact h2 (by simp [h])
    · have q' : Op.bytesLess x.key.toList to.toList = false := q
      rw [q'] at h
      cases h
theorem cut_yes2 {to : ByteArray} {most : Int} {k : Nat} {x : Ent} (h : most ≤ (k : Int) ∨ (!to.toList.isEmpty) = true ∧ (!Op.bytesLess x.key.toList to.toList) = true) (h2 : ¬ to.toList = []) : cut to most k x := by
  rcases h with h | ⟨_, h⟩
  · exact Or.inl h
  · refine Or.inr ⟨h2, ?_⟩
    show Op.bytesLess x.key.toList to.toList = false
    simpa using h
theorem tk_cut {to : ByteArray} {most : Int} {pre : List Ent} {x : Ent} {Z : List Ent} (h : cut to most pre.length x) : tk to most pre (x :: Z) = pre := by
  rw [tk, if_pos ((cutB_iff _ _ _ _).2 h)]
theorem tk_not {to : ByteArray} {most : Int} {pre : List Ent} {x : Ent} (h : ¬ cut to most pre.length x) (Z : List Ent) : tk to most pre (x :: Z) = tk to most (pre ++ [x]) Z := by
  rw [tk, if_neg (fun q => h ((cutB_iff _ _ _ _).1 q))]

section
variable {w : World} {B tb f : Nat} {M : Mp} {L : List Ent}

set_option maxHeartbeats 6400000 in
set_option maxRecDepth 100000 in
theorem range_any (t : Te w B tb f M L) (key to : ByteArray) (most : Int) (hkl : ∀ e ∈ L, e.key.size ≤ 4096) : Calls Try.prog 21 #[.pointer (some ⟨tb, 0, none⟩), .string key, .string to, .int .i64 most] w fun e w' => ∃ v, e = .returned v ∧ RowE w' w.heap.size v (tk to most [] (rg key L)) ∧ Below w.heap.size w w' := by
  obtain ⟨R, H, F, h1, m, g⟩ := t.ex
  have hlen := t.len
  have hb0 : Below w.heap.size w (((w.alloc (.cells #[.string to] 9)).alloc (.cells #[.int .i64 most] 3)).alloc (.cells #[.slice none 0 0] 45)) := below2 (below2 (below_alloc1 _ _) (below_alloc1 _ _)) (below_alloc1 _ _)
  have h1b := (hb0.block tb (t.lt (Or.inr rfl)).2).trans h1
  have ct1 := (cell_obj (j := 1) h1b).1
  refine (callsIn_wide (n := 5)).1 ?_
  refine callsIn_of_wp_marks Try.func21 rfl trivial ?_ rfl
  simp only [Try.ntmps21, List.size_toArray, List.length_cons, List.length_nil, Nat.reduceAdd, Nat.reduceSub, Array.replicate_succ, Array.replicate_zero, List.push_toArray, List.append_toArray, List.nil_append, List.cons_append]
  gi_wp2_with (refine ⟨trivial, ?_⟩; gi_at_call 40; refine (callsIn_wide.2 (rising_any _ _ _)).mono ?_; rintro e w' ⟨rfl, h3⟩; rw [h3]; clear h3 w')
  have hb5 : Below w.heap.size w (((((w.alloc (.cells #[.string to] 9)).alloc (.cells #[.int .i64 most] 3)).alloc (.cells #[.slice none 0 0] 45)).alloc (.cells #[.pointer (some ⟨R, 0, none⟩)] 65)).alloc (.cells #[.string key] 9)) := (hb0.alloc (by simp only [World.size_alloc]; omega) _).alloc (by simp only [World.size_alloc]; omega) _
  obtain ⟨W5, hW5⟩ : ∃ W5, W5 = (((((w.alloc (.cells #[.string to] 9)).alloc (.cells #[.int .i64 most] 3)).alloc (.cells #[.slice none 0 0] 45)).alloc (.cells #[.pointer (some ⟨R, 0, none⟩)] 65)).alloc (.cells #[.string key] 9)) := ⟨_, rfl⟩
  have hz5 : w.heap.size + 5 = W5.heap.size := by rw [hW5]; simp
  obtain ⟨b0, b1, b2, b3, b4⟩ : W5.heap[w.heap.size]? = some (.cells #[.string to] 9 (0, 0)) ∧ W5.heap[w.heap.size + 1]? = some (.cells #[.int .i64 most] 3 (0, 0)) ∧ W5.heap[w.heap.size + 1 + 1]? = some (.cells #[.slice none 0 0] 45 (0, 0)) ∧ W5.heap[w.heap.size + 1 + 1 + 1]? = some (.cells #[.pointer (some ⟨R, 0, none⟩)] 65 (0, 0)) ∧ W5.heap[w.heap.size + 1 + 1 + 1 + 1]? = some (.cells #[.string key] 9 (0, 0)) := by
    rw [hW5]
    have s3 : (((w.alloc (.cells #[.string to] 9)).alloc (.cells #[.int .i64 most] 3)).alloc (.cells #[.slice none 0 0] 45)).heap.size = w.heap.size + 1 + 1 + 1 := by simp
    have q0 := alloc_first w (.cells #[.slice none 0 0] 45) (.cells #[.string to] 9) (.cells #[.int .i64 most] 3)
    have q1 := alloc_second w (.cells #[.slice none 0 0] 45) (.cells #[.string to] 9) (.cells #[.int .i64 most] 3)
    have q2 := alloc_two w (.cells #[.slice none 0 0] 45) (.cells #[.string to] 9) (.cells #[.int .i64 most] 3)
    generalize ((w.alloc (.cells #[.string to] 9)).alloc (.cells #[.int .i64 most] 3)).alloc (.cells #[.slice none 0 0] 45) = U at *
    have s4 : (U.alloc (.cells #[.pointer (some ⟨R, 0, none⟩)] 65)).heap.size = U.heap.size + 1 := by simp
    refine ⟨?_, ?_, ?_, ?_, ?_⟩
    · rw [heap_alloc_old _ _ (by omega), heap_alloc_old _ _ (by omega)]; exact q0
    · rw [heap_alloc_old _ _ (by omega), heap_alloc_old _ _ (by omega)]; exact q1
    · rw [heap_alloc_old _ _ (by omega), heap_alloc_old _ _ (by omega)]; exact q2
    · rw [heap_alloc_old _ _ (by omega), ← s3, heap_alloc_new]
    · rw [← s3]; exact alloc_one _ _ _
  rw [← hW5] at hb5 ⊢
  clear hW5 hb0 h1b ct1
  have m5 := m.below hb5
  refine wp_rising (xn := w.heap.size + 1 + 1 + 1) (xk := w.heap.size + 1 + 1 + 1 + 1) (B := B) (M := M) (f := f) (H := H) (R := R) (key := key) (L := L) (F := F) rfl rfl (cell_obj b3).1 (cell_obj b4).1 (by omega) (by omega) g.tr g.srt (by omega)
    (fun pre W => Rg w W5.heap.size to most pre W ∧ ∀ rest, tk to most [] (pre ++ rest) = tk to most pre rest) (fun c W => c = .exit 0 ∧ Rg w W5.heap.size to most (tk to most [] (rg key L)) W)
    (fun pre X Y row hj hg hr => ⟨hj.1.grown hg hr, hj.2⟩) (fun c X Y row hj hg hr => ⟨hj.1, hj.2.grown hg hr⟩) (fun pre W hj => m.below hj.1.bw) (fun pre W W' hj hb => ⟨hj.1.below hb, hj.2⟩)
    ⟨⟨⟨.slice none 0 0, b0, b1, b2, grow_nil _ _ _ _ _⟩, hb5, hz5, Nat.le_refl _⟩, fun rest => rfl⟩
    (fun x a' W => ∃ Bx, a' = { tmps := #[.pointer (some ⟨tb, 0, none⟩), .string key, .string to, .int .i64 most, undef, undef, .pointer (some ⟨w.heap.size, 0, none⟩), .pointer (some ⟨w.heap.size + 1, 0, none⟩), .slice none 0 0, .pointer (some ⟨w.heap.size + 1 + 1, 0, none⟩), .pointer (some ⟨Bx, 0, none⟩), .pointer (some ⟨tb, 0, none⟩), .bool false, .pointer (some ⟨tb, 0, none⟩), .pointer (some ⟨tb, 0, none⟩), .pointer (some ⟨tb, 1, none⟩), .pointer (some ⟨R, 0, none⟩), .string key, .func (.func 53) #[] #[.pointer (some ⟨w.heap.size + 1 + 1 + 1, 0, none⟩), .pointer (some ⟨w.heap.size + 1 + 1 + 1 + 1, 0, none⟩)], .agg #[.string x.key, .int .i64 x.n], undef, undef, undef, undef, undef, undef, undef, undef, undef, undef, undef, undef, undef, undef, undef, undef, undef, undef, undef, undef, undef, undef, undef, undef], defers := [] } ∧ W.heap[Bx]? = some (.cells #[.string x.key, .int .i64 x.n] 58 (0, 0)) ∧ W5.heap.size ≤ Bx ∧ ∀ v, W.heap[w.heap.size + 1 + 1]? = some (.cells #[v] 45 (0, 0)) → v.ownBlock ≠ some Bx) ?_ ?_ ?_ ?_ ?_
  · -- what the round's box says
    rintro k a' u X Y row ⟨Bx, h2, h3, h4, h5⟩ hg hrow
    refine ⟨Bx, h2, (hg.block _ (Array.getElem?_eq_some_iff.1 h3).1 (fun q => by
      obtain ⟨o, g1, g2⟩ := (hrow _ q.symm).2
      rw [h3] at g1; cases g1; cases g2)).trans h3, h4, fun v hv => h5 v ?_⟩
    have hl := (Array.getElem?_eq_some_iff.1 h3).1
    rw [← hv]
    exact (hg.block _ (by omega) (fun q => by have := (hrow _ q.symm).1; omega)).symm
  · intro l pre x W K hj hK
    rw [zip1]
    change Code.wpIn _ _ _ _ _ { tmps := #[.pointer (some ⟨tb, 0, none⟩), .string key, .string to, .int .i64 most, undef, undef, .pointer (some ⟨w.heap.size, 0, none⟩), .pointer (some ⟨w.heap.size + 1, 0, none⟩), .slice none 0 0, .pointer (some ⟨w.heap.size + 1 + 1, 0, none⟩), undef, .pointer (some ⟨tb, 0, none⟩), .bool false, .pointer (some ⟨tb, 0, none⟩), .pointer (some ⟨tb, 0, none⟩), .pointer (some ⟨tb, 1, none⟩), .pointer (some ⟨R, 0, none⟩), .string key, .func (.func 53) #[] #[.pointer (some ⟨w.heap.size + 1 + 1 + 1, 0, none⟩), .pointer (some ⟨w.heap.size + 1 + 1 + 1 + 1, 0, none⟩)], .agg #[.string x.key, .int .i64 x.n], undef, undef, undef, undef, undef, undef, undef, undef, undef, undef, undef, undef, undef, undef, undef, undef, undef, undef, undef, undef, undef, undef, undef, undef], defers := [] } _
    clear b0 b1 b2 b3 b4 m5 hb5 g m
    gi_wp2
    refine hK _ _ ?_ ?_ ⟨W.heap.size, rfl, ?_, ?_, ?_⟩
    · exact keeps_alloc _ _ _
    · exact ⟨hj.1.below (below_alloc1 _ _), hj.2⟩
    · exact heap_alloc_new _ _
    · exact hj.1.sz.2
    · intro v hv e
      obtain ⟨v0, _, _, h3, h4⟩ := hj.1.ex
      rw [heap_alloc_old _ _ (Array.getElem?_eq_some_iff.1 h3).1, h3] at hv
      cases hv
      have := (h4.blk e).2
      omega
  · -- a round
    rintro l pre x a' W hl ⟨Z, hZ⟩ hj ⟨Bx, rfl, hBx, hBs, hBn⟩
    obtain ⟨⟨⟨v, h1, h2, h3, h4⟩, hbw, hz, hz2⟩, htk⟩ := hj
    obtain ⟨va, vc, rfl, _, _⟩ := h4.len
    obtain ⟨c0, _⟩ := cell_obj (j := 0) h1
    obtain ⟨c1, _⟩ := cell_obj (j := 0) h2
    obtain ⟨c2, c2f⟩ := cell_obj (j := 0) h3
    obtain ⟨c3, _⟩ := cell_obj (j := 0) hBx
    obtain ⟨c4, _⟩ := cell_obj (j := 1) hBx
    have hks : x.key.size ≤ 281474976710656 := by
      have hm : x ∈ rg key L := by rw [hZ]; simp
      have := hkl x (by rw [rg_drop] at hm; exact List.mem_of_mem_drop hm)
      omega
    have HRow : Hid (RowE W W5.heap.size (.slice va pre.length vc) pre) := h4
    have HB : Hid (W.heap[Bx]? = some (.cells #[.string x.key, .int .i64 x.n] 58 (0, 0)) ∧ (Value.slice va pre.length vc).ownBlock ≠ some Bx ∧ W5.heap.size ≤ Bx) := ⟨hBx, hBn _ h3, hBs⟩
    have HH : Hid (W.heap[w.heap.size]? = some (.cells #[.string to] 9 (0, 0)) ∧ W.heap[w.heap.size + 1]? = some (.cells #[.int .i64 most] 3 (0, 0)) ∧ W.heap[w.heap.size + 1 + 1]? = some (.cells #[.slice va pre.length vc] 45 (0, 0))) := ⟨h1, h2, h3⟩
    have HT : Hid (∀ rest, tk to most [] (pre ++ rest) = tk to most pre rest) := htk
    have HZ : Hid (rg key L = pre ++ x :: Z) := hZ
    have HS : Hid (Below w.heap.size w W ∧ w.heap.size + 5 = W5.heap.size ∧ W5.heap.size ≤ W.heap.size) := ⟨hbw, hz, hz2⟩
    clear b0 b1 b2 b3 b4 m5 hb5 g m hBn hBs hBx h1 h2 h3 h4 hbw htk hZ
    have hlen2 : pre.length ≤ 4096 := by
      have h1 := congrArg List.length HZ.out
      have h2 := rg_len key L
      rw [List.length_append] at h1
      omega
    have CE : Hid (∀ V, Fr (fun k => (Value.slice va pre.length vc).ownBlock = some k) W V → V.cell? ⟨w.heap.size + 1 + 1, 0, none⟩ = some (.slice va pre.length vc) ∧ (V.cell? ⟨Bx, 0, none⟩ = some (.string x.key) ∧ V.cell? ⟨Bx, 1, none⟩ = some (.int .i64 x.n)) ∧ V.frozen? ⟨w.heap.size + 1 + 1, 0, none⟩ = false) := fun V g => by
      have q1 := (g.block _ (by have := HS.out; omega) (fun e => by have := (HRow.out.blk e).1; have := HS.out; omega)).trans HH.out.2.2
      have q2 := (g.block _ (Array.getElem?_eq_some_iff.1 HB.out.1).1 HB.out.2.1).trans HB.out.1
      exact ⟨(cell_obj (j := 0) q1).1, ⟨(cell_obj (j := 0) q2).1, (cell_obj (j := 1) q2).1⟩, (cell_obj (j := 0) q1).2⟩
    have HCut : Hid (cut to most pre.length x → KeepsFrom W5.heap.size W W ∧ (Code.exit 0 = Code.exit 0 ∧ Rg w W5.heap.size to most (tk to most [] (rg key L)) W)) := fun h => by
      refine ⟨KeepsFrom.refl _ _, rfl, ?_⟩
      rw [HZ.out, HT.out, tk_cut h]
      exact ⟨⟨_, HH.out.1, HH.out.2.1, HH.out.2.2, HRow.out⟩, HS.out.1, HS.out.2⟩
    by_cases hcut : cut to most pre.length x
    · have HX := HCut.out hcut
      gi_wp2
      all_goals first
        | exact ⟨HX.1, rfl, HX.2.2⟩
        | exact absurd hcut (cut_no1 (by assumption) (by assumption))
        | exact absurd hcut (cut_no2 (by assumption) (by assumption))
    · have hnx : ∀ rest, tk to most pre (x :: rest) = tk to most (pre ++ [x]) rest := fun rest => tk_not hcut rest
      have HNX : Hid (¬ cut to most pre.length x) := hcut
      gi_wp2
      all_goals first
        | exact absurd (Or.inl (by assumption)) HNX.out
        | exact absurd (cut_yes2 (by assumption) (by assumption)) HNX.out
        | skip
      all_goals
        refine anyL_round (S := fun V => Fr (fun k => (Value.slice va pre.length vc).ownBlock = some k) W V) (n := 9) (by kernel_rfl) (by kernel_rfl) (by rintro ⟨_, _, h⟩; exact h) ((Fr.refl _ _).drew) (fun hHeld => ?_)
        have hD5 : Below W.heap.size W W.drew := (Below.refl _ _).drew
        generalize W.drew = Wd at hHeld hD5 ⊢
        refine takeL 0 34 (v := .slice va pre.length vc) rfl rfl (by kernel_rfl) (by kernel_rfl) (by kernel_rfl) (by kernel_rfl) (fun _ _ _ h => h) (Or.inl ⟨by rfl, by (intro W hSw; obtain ⟨s1, s2, s3⟩ := CE.out W hSw; go_simp)⟩) hHeld ?_
        simp only [List.setIfInBounds_toArray, List.set_cons_zero, List.set_cons_succ]
        refine takeL 1 35 (v := .pointer (some ⟨Bx, 0, none⟩)) rfl rfl (by kernel_rfl) (by kernel_rfl) (by kernel_rfl) (by kernel_rfl) (fun _ _ _ h => h) (Or.inl ⟨by rfl, by (intro W hSw; obtain ⟨s1, s2, s3⟩ := CE.out W hSw; go_simp)⟩) hHeld ?_
        simp only [List.setIfInBounds_toArray, List.set_cons_zero, List.set_cons_succ]
        refine takeL 2 36 (v := .string x.key) rfl rfl (by kernel_rfl) (by kernel_rfl) (by kernel_rfl) (by kernel_rfl) (fun _ _ _ h => h) (Or.inl ⟨by rfl, by (intro W hSw; obtain ⟨s1, s2, s3⟩ := CE.out W hSw; go_simp)⟩) hHeld ?_
        simp only [List.setIfInBounds_toArray, List.set_cons_zero, List.set_cons_succ]
        refine takeL 4 38 (v := .pointer (some ⟨Bx, 1, none⟩)) rfl rfl (by kernel_rfl) (by kernel_rfl) (by kernel_rfl) (by kernel_rfl) (fun _ _ _ h => h) (Or.inl ⟨by rfl, by (intro W hSw; obtain ⟨s1, s2, s3⟩ := CE.out W hSw; go_simp)⟩) hHeld ?_
        simp only [List.setIfInBounds_toArray, List.set_cons_zero, List.set_cons_succ]
        refine takeL 5 39 (v := .int .i64 x.n) rfl rfl (by kernel_rfl) (by kernel_rfl) (by kernel_rfl) (by kernel_rfl) (fun _ _ _ h => h) (Or.inl ⟨by rfl, by (intro W hSw; obtain ⟨s1, s2, s3⟩ := CE.out W hSw; go_simp)⟩) hHeld ?_
        simp only [List.setIfInBounds_toArray, List.set_cons_zero, List.set_cons_succ]
        refine anyL_one 3 (by kernel_rfl) (upL rfl (fun K hK => ?_))
        go_simp
        refine (clone_any x.key _ hks).mono ?_
        rintro e' w5 ⟨rfl, fb5⟩
        have hC5 := below2 hD5 fb5
        go_simp
        refine hK.out _ _ (fun _ => hHeld.trans (Fr.of_below (F := fun _ => False) fb5) (fun _ _ g => g.elim)) (fun hHeld0 => ?_)
        have hHeld := hHeld0 (by decide)
        clear hHeld0 hK K
        (try simp only [Act.put, List.setIfInBounds_toArray, List.set_cons_zero, List.set_cons_succ])
        refine anyL_one 6 (by kernel_rfl) (upL rfl (fun K hK => ?_))
        go_simp
        refine hK.out _ _ (fun _ => hHeld) (fun hHeld0 => ?_)
        have hHeld := hHeld0 (by decide)
        clear hHeld0 hK K
        (try simp only [Act.put, List.setIfInBounds_toArray, List.set_cons_zero, List.set_cons_succ])
        refine anyL_one 7 (by kernel_rfl) (upL rfl (fun K hK => ?_))
        go_simp
        have rv1 := one_newE w5 x
        have row1 := (HRow.out.below' hC5).below' (below_alloc1 w5 (.cells #[.string x.key, .int .i64 x.n] 58))
        have hC6 := below2 hC5 (below_alloc1 w5 (.cells #[.string x.key, .int .i64 x.n] 58))
        refine hK.out _ _ (fun _ => hHeld.alloc _) (fun hHeld0 => ?_)
        have hHeld := hHeld0 (by decide)
        clear hHeld0 hK K
        (try simp only [Act.put, List.setIfInBounds_toArray, List.set_cons_zero, List.set_cons_succ])
        refine anyL_one 8 (by kernel_rfl) (upL rfl (fun K hK => ?_))
        refine step_append_rows gE_len gE_one Try.underlying45 Try.infoE rfl (by decide) (by decide) rfl (.tmp 34) (.tmp 41) rfl (by first | rfl | simp [Act.eval]) row1 (by first | rfl | simp [Act.eval]) rv1 (by simp; omega) (Nat.le_trans HS.out.2.2 hC6.size) ?_
        intro v2 w2 row2 fr2 new2
        have fB : Fr (fun k => (Value.slice va pre.length vc).ownBlock = some k) W w2 := hHeld.trans fr2 (fun _ _ g => g)
        refine hK.out _ _ (fun _ => fB) (fun hHeld0 => ?_)
        have hHeld := hHeld0 (by decide)
        clear hHeld0 hK K
        (try simp only [Act.put, List.setIfInBounds_toArray])
        obtain ⟨s1, s2, s3⟩ := CE.out _ hHeld
        obtain ⟨a2, c2', rfl, _, _⟩ := row2.len
        refine anyL_one 9 (by kernel_rfl) (upL rfl (fun K hK => ?_))
        go_simp
        refine hK.out _ _ (fun q => absurd rfl q) (fun _ => ?_)
        clear hK K
        (try simp only [Act.put, List.setIfInBounds_toArray, List.set_cons_zero, List.set_cons_succ])
        refine anyL_done (by kernel_rfl) ?_ _
        have hxl : ∀ {k : Nat}, k < W5.heap.size → (Value.slice va pre.length vc).ownBlock ≠ some k := fun hk e => by have := (HRow.out.blk e).1; omega
        have hz := HS.out
        have g0 := (hHeld.block _ (by omega) (hxl (by omega))).trans HH.out.1
        have g1 := (hHeld.block _ (by omega) (hxl (by omega))).trans HH.out.2.1
        have g2 := (hHeld.block _ (by omega) (hxl (by omega))).trans HH.out.2.2
        have g3 := heap_setCell_same w2 (w.heap.size + 1 + 1) 0 _ _ (.slice a2 (pre ++ [x]).length c2') g2
        have hbl : ∀ k, (Value.slice va pre.length vc).ownBlock = some k → w.heap.size ≤ k := fun k e => by have := (HRow.out.blk e).1; omega
        have fW := Fr.set (F := fun k => (Value.slice va pre.length vc).ownBlock = some k ∨ k = w.heap.size + 1 + 1) (p := ⟨w.heap.size + 1 + 1, 0, none⟩) (hHeld.weak (fun _ _ q => Or.inl q)) (Or.inl (Or.inr rfl)) (.slice a2 (pre ++ [x]).length c2')
        have hR2 : RowE (w2.setCell ⟨w.heap.size + 1 + 1, 0, none⟩ (.slice a2 (pre ++ [x]).length c2')) W5.heap.size (.slice a2 (pre ++ [x]).length c2') (pre ++ [x]) := row2.kept (fun k e => set_other (by have := (row2.blk e).1; omega))
        have hKF : KeepsFrom W5.heap.size W (w2.setCell ⟨w.heap.size + 1 + 1, 0, none⟩ (.slice a2 (pre ++ [x]).length c2')) := ⟨fW.size, fun k o hk ho hc => (fW.block k (Array.getElem?_eq_some_iff.1 ho).1 (fun q => by
          rcases q with q | q
          · obtain ⟨cu, h3⟩ := row_obj HRow.out q
            rw [ho] at h3; cases h3; cases hc
          · omega)).trans ho⟩
        have hRg : Rg w W5.heap.size to most (pre ++ [x]) (w2.setCell ⟨w.heap.size + 1 + 1, 0, none⟩ (.slice a2 (pre ++ [x]).length c2')) := ⟨⟨_, (set_other (by omega)).trans g0, (set_other (by omega)).trans g1, g3, hR2⟩, fW.below hz.1 (by omega) (fun k q => q.elim (hbl k) (fun q => by omega)), hz.2.1, by have := fW.size; omega⟩
        have HFin : Hid (KeepsFrom W5.heap.size W (w2.setCell ⟨w.heap.size + 1 + 1, 0, none⟩ (.slice a2 (pre ++ [x]).length c2')) ∧ Rg w W5.heap.size to most (pre ++ [x]) (w2.setCell ⟨w.heap.size + 1 + 1, 0, none⟩ (.slice a2 (pre ++ [x]).length c2'))) := ⟨hKF, hRg⟩
        have hpl : (pre ++ [x]).length = pre.length + 1 := by simp
        rw [hpl] at HFin
        clear hKF hRg hR2 fW g0 g1 g2 g3 s1 s2 s3 hpl
        gi_wp2
        exact ⟨HFin.out.1, HFin.out.2, fun rest => by rw [List.append_assoc]; exact (HT.out _).trans (tk_not HNX.out rest)⟩
  · rintro D W hD ⟨hr, htk⟩ hK
    have hfin : tk to most [] (rg key L) = rg key L := by
      have := htk []
      rw [List.append_nil] at this
      rw [this]; rfl
    rw [← hfin] at hr
    obtain ⟨⟨v, h1, h2, h3, h4⟩, hbw, hz, hz2⟩ := hr
    obtain ⟨c2, _⟩ := cell_obj (j := 0) h3
    have HRow : Hid (RowE W W5.heap.size v (tk to most [] (rg key L))) := h4
    clear b0 b1 b2 b3 b4 m5 hb5 g m htk hfin h4
    gi_wp2
    refine ⟨by simp, .inl ⟨_, _, rfl, run_takeDeferred hK, ?_⟩⟩
    refine ⟨_, results_tmp rfl _ _ _, _, rfl, (HRow.out.mono (by omega)).kept (fun k e => World.putObj_heap_other (fun q => ?_)), below_putObj hbw (by omega)⟩
    obtain ⟨cu, h5⟩ := row_obj HRow.out e
    rw [q, hK] at h5
    cases h5
  · rintro D c W hD ⟨rfl, hr⟩ hK
    obtain ⟨⟨v, h1, h2, h3, h4⟩, hbw, hz, hz2⟩ := hr
    obtain ⟨c2, _⟩ := cell_obj (j := 0) h3
    have HRow : Hid (RowE W W5.heap.size v (tk to most [] (rg key L))) := h4
    clear b0 b1 b2 b3 b4 m5 hb5 g m h4
    gi_wp2
    refine ⟨by simp, .inl ⟨_, _, rfl, run_takeDeferred hK, ?_⟩⟩
    refine ⟨_, results_tmp rfl _ _ _, _, rfl, (HRow.out.mono (by omega)).kept (fun k e => World.putObj_heap_other (fun q => ?_)), below_putObj hbw (by omega)⟩
    obtain ⟨cu, h5⟩ := row_obj HRow.out e
    rw [q, hK] at h5
    cases h5
end

end Go.Proofs.Ytkfoddblgdmabaa.tr

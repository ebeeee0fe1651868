/- seen: a log's state; the steps of a law among its arguments. -/
import Derived.Test.YtlapgalefpenbaaLRef
import Derived.Test.YtlapgalefpenbaaLArgOpen
namespace Go.Proofs.Ytlapgalefpenbaa
open Go.RowKit Go.ChangeShapes Go.WideShapes Go.ChangeAt Go.Deep

set_option maxHeartbeats 800000 in
set_option maxRecDepth 100000 in
theorem seen_any {W w : World} {lb g gs n b : Nat} {bs : ByteArray} {recs : List ByteArray} {Q : List ByteArray → Prop} {X : Nat → Prop} (h : Lw W w lb g gs n b bs recs Q X) :
    Calls Try.prog 21 #[.pointer (some ⟨lb, 0, none⟩)] w fun e w' => ∃ v, e = .returned (.agg #[.string bs, v]) ∧ Row w' w.heap.size v recs ∧ Below w.heap.size w w' := by
  have b0 := below_alloc1 w (.cells #[.string ⟨#[]⟩, .slice none 0 0] 35)
  have l0 := h.below b0
  have hlt0 : w.heap.size < (w.alloc (.cells #[.string ⟨#[]⟩, .slice none 0 0] 35)).heap.size := by simp
  go_enter Try.func21, Try.ntmps21
  go_wp2_with fail
  refine (play_base l0).mono ?_
  rintro e w1 ⟨rfl, b1⟩
  have l1 := l0.below b1
  go_wp2_with fail
  refine (play_records l1).mono ?_
  rintro e w2 ⟨v, rfl, r2, b2⟩
  have b02 := below2 b1 b2
  have e0 := (b02.block w.heap.size hlt0).trans (heap_alloc_new w _)
  have y0 := frozen_of_row w2 w.heap.size 0 _ _ e0
  have y1 := frozen_of_row w2 w.heap.size 1 _ _ e0
  have x0 : w2.cell? ⟨w.heap.size, 0, none⟩ = some (.string ⟨#[]⟩) := by simp [World.cell?, e0]
  have x1 : w2.cell? ⟨w.heap.size, 1, none⟩ = some (.slice none 0 0) := by simp [World.cell?, e0]
  obtain ⟨a, c, hav⟩ := r2.len
  have hne : ∀ k, v.ownBlock = some k → k ≠ w.heap.size := fun k e => by have := (r2.blk e).1; have := b1.size; simp at this; omega
  have r3 : Row ((w2.setCell ⟨w.heap.size, 0, none⟩ (.string bs)).setCell ⟨w.heap.size, 1, none⟩ v) w.heap.size v recs := by
    have r := (r2.kept (w' := (w2.setCell ⟨w.heap.size, 0, none⟩ (.string bs)).setCell ⟨w.heap.size, 1, none⟩ v) (fun k e => (Below.heap_setCell _ _ _ _ (hne k e)).trans (Below.heap_setCell _ _ _ _ (hne k e))))
    rcases r with r | ⟨bb, o, cap, cur, e, hb, r⟩
    · exact Or.inl r
    · exact Or.inr ⟨bb, o, cap, cur, e, Nat.le_trans (Nat.le_trans b0.size b1.size) hb, r⟩
  have b3 := below2 b0 b02
  subst hav
  go_wp2_with fail
  refine bodyPost_ret (v := .agg #[.string bs, .slice a recs.length c]) ?_ rfl ⟨_, rfl, r3, (b3.setCell (Nat.le_refl _) _).setCell (Nat.le_refl _) _⟩
  simp [results, Try.results21, go_sem, x0, x1]

end Go.Proofs.Ytlapgalefpenbaa

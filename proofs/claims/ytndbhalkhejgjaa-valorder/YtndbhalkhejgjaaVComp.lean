/- The contracts of val.Compare and of the document's Compare. -/
import Derived.Test.YtndbhalkhejgjaaVCmp
namespace Go.Proofs.Ytndbhalkhejgjaa
open Go.RowKit
attribute [local go_sem ↓] Go.wp_at_zero Go.wp_at_succ

theorem below_cmp (w : World) (a b c : Obj) : Below w.heap.size w (((w.alloc a).alloc b).alloc c).drew := (below_alloc3 w a b c).drew

theorem new_at0 {W : World} {x y z : Value} {t : TypeId} {H : Nat} (hH : W.heap.size = H) : (W.alloc (.cells #[x, y, z] t)).drew.cell? ⟨H, 0, none⟩ = some x := by subst hH; simp
theorem new_at1 {W : World} {x y z : Value} {t : TypeId} {H : Nat} (hH : W.heap.size = H) : (W.alloc (.cells #[x, y, z] t)).drew.cell? ⟨H, 1, none⟩ = some y := by subst hH; simp
theorem new_at2 {W : World} {x y z : Value} {t : TypeId} {H : Nat} (hH : W.heap.size = H) : (W.alloc (.cells #[x, y, z] t)).drew.cell? ⟨H, 2, none⟩ = some z := by subst hH; simp

set_option maxHeartbeats 4000000 in
set_option maxRecDepth 100000 in
theorem compare_any (a b : V) (w : World) : Calls Try.prog 15 #[a.val, b.val] w fun e w' => e = .returned (.int .i64 (cmpV a b)) ∧ Below w.heap.size w w' := by
  obtain ⟨k, n, s⟩ := a
  obtain ⟨k', n', s'⟩ := b
  simp only [V.val]
  have c1 := fun w => cmpInt_any k k' w
  have c2 := fun w => cmpInt64_any n n' w
  have c3 := fun w => cmpString_any s s' w
  have hv : cmpV ⟨k, n, s⟩ ⟨k', n', s'⟩ = or3 (cmpI k k') (cmpI n n') (cmpS s s') := rfl
  rw [hv]
  clear hv
  generalize cmpI k k' = x at *
  generalize cmpI n n' = y at *
  generalize cmpS s s' = z at *
  go_enter Try.func15, Try.ntmps15
  go_wp2_with fail
  go_region_held3 (fun W => W.cell? ⟨w.heap.size, 0, none⟩ = some (.int .i64 k) ∧ W.cell? ⟨w.heap.size, 1, none⟩ = some (.int .i64 n) ∧ W.cell? ⟨w.heap.size, 2, none⟩ = some (.string s) ∧ W.cell? ⟨w.heap.size + 1, 0, none⟩ = some (.int .i64 k') ∧ W.cell? ⟨w.heap.size + 1, 1, none⟩ = some (.int .i64 n') ∧ W.cell? ⟨w.heap.size + 1, 2, none⟩ = some (.string s'))
    (go_keep)
    ((first | (go_at_call 39; refine (c1 _).mono ?_; rintro e w1 ⟨rfl, rfl⟩) | (go_at_call 40; refine (c2 _).mono ?_; rintro e w1 ⟨rfl, rfl⟩) | (go_at_call 41; refine (c3 _).mono ?_; rintro e w1 ⟨rfl, rfl⟩) | (go_at_call 38; refine (or_any x y z _ _ (new_at0 (by simp)) (new_at1 (by simp)) (new_at2 (by simp))).mono ?_; rintro e w1 ⟨rfl, rfl⟩)))
  all_goals go_wp2_with fail
  all_goals go_ret
  all_goals exact ⟨rfl, below_cmp _ _ _ _⟩

end Go.Proofs.Ytndbhalkhejgjaa

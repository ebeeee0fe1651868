/- Layer 10: a tree that nobody made. -/
import Derived.Test.YtkfoddblgdmabaaTrTRange
import Derived.Test.YtkfoddblgdmabaaTrTPut
import Derived.Test.YtkfoddblgdmabaaTrDepth
namespace Go.Proofs.Ytkfoddblgdmabaa.tr
open Go.RowKit Go.Shelf

attribute [local go_sem] Oper.semAt_some

section
variable (w : World) (key : ByteArray) (z : Int)
set_option maxHeartbeats 800000
theorem put_nil : Calls Try.prog 12 #[.pointer none, .string key, .int .i64 z] w fun e w' => e = .returned (.tuple #[.bool false, .int .i64 1]) ∧ w' = w := by
  go_enter Try.func12, Try.ntmps12
  go_wp2_with fail
  go_ret2
  exact ⟨rfl, rfl⟩
theorem delete_nil : Calls Try.prog 14 #[.pointer none, .string key] w fun e w' => e = .returned (.bool false) ∧ w' = w := by
  go_enter Try.func14, Try.ntmps14
  go_wp2_with fail
  go_ret
  exact ⟨rfl, rfl⟩
theorem get_nil : Calls Try.prog 26 #[.pointer none, .string key] w fun e w' => e = .returned (.tuple #[.int .i64 0, .bool false]) ∧ w' = w := by
  go_enter Try.func26, Try.ntmps26
  go_wp2_with fail
  go_ret2
  exact ⟨rfl, rfl⟩
theorem len_nil : Calls Try.prog 25 #[.pointer none] w fun e w' => e = .returned (.int .i64 0) ∧ w' = w := by
  go_enter Try.func25, Try.ntmps25
  go_wp2_with fail
  go_ret
  exact ⟨rfl, rfl⟩
theorem depth_nil : Calls Try.prog 18 #[.pointer none] w fun e w' => e = .returned (.int .i64 0) ∧ w' = w := by
  go_enter Try.func18, Try.ntmps18
  go_wp2_with fail
  go_ret
  exact ⟨rfl, rfl⟩
theorem copy_nil : Calls Try.prog 16 #[.pointer none] w fun e w' => e = .returned (.pointer none) ∧ w' = w := by
  go_enter Try.func16, Try.ntmps16
  go_wp2_with fail
  go_ret
  exact ⟨rfl, rfl⟩
theorem at_nil : Calls Try.prog 27 #[.pointer none, .string key] w fun e w' => e = .returned (.tuple #[.string ⟨#[]⟩, .int .i64 0, .bool false]) ∧ Below w.heap.size w w' := by
  refine (callsIn_wide (n := 5)).1 ?_
  refine callsIn_of_wp_marks Try.func27 rfl trivial ?_ rfl
  simp only [Try.ntmps27, List.size_toArray, List.length_cons, List.length_nil, Nat.reduceAdd, Nat.reduceSub, Array.replicate_succ, Array.replicate_zero, List.push_toArray, List.append_toArray, List.nil_append, List.cons_append]
  gi_wp2
  have k1 := (cell_obj (j := 0) (alloc_first w (.cells #[.bool false] 4) (.cells #[.string ⟨#[]⟩] 9) (.cells #[.int .i64 0] 2))).1
  have k2 := (cell_obj (j := 0) (alloc_second w (.cells #[.bool false] 4) (.cells #[.string ⟨#[]⟩] 9) (.cells #[.int .i64 0] 2))).1
  have k3 := (cell_obj (j := 0) (alloc_two w (.cells #[.bool false] 4) (.cells #[.string ⟨#[]⟩] 9) (.cells #[.int .i64 0] 2))).1
  refine ⟨.tuple #[.string ⟨#[]⟩, .int .i64 0, .bool false], ?_, rfl, below2 (below2 (below_alloc1 _ _) (below_alloc1 _ _)) (below_alloc1 _ _)⟩
  simp [results, Try.results27, go_sem, k1, k2, k3]
theorem before_nil : Calls Try.prog 28 #[.pointer none, .string key] w fun e w' => e = .returned (.tuple #[.string ⟨#[]⟩, .int .i64 0, .bool false]) ∧ Below w.heap.size w w' := by
  refine (callsIn_wide (n := 5)).1 ?_
  refine callsIn_of_wp_marks Try.func28 rfl trivial ?_ rfl
  simp only [Try.ntmps28, List.size_toArray, List.length_cons, List.length_nil, Nat.reduceAdd, Nat.reduceSub, Array.replicate_succ, Array.replicate_zero, List.push_toArray, List.append_toArray, List.nil_append, List.cons_append]
  gi_wp2
  have k1 := (cell_obj (j := 0) (alloc_first w (.cells #[.bool false] 4) (.cells #[.string ⟨#[]⟩] 9) (.cells #[.int .i64 0] 2))).1
  have k2 := (cell_obj (j := 0) (alloc_second w (.cells #[.bool false] 4) (.cells #[.string ⟨#[]⟩] 9) (.cells #[.int .i64 0] 2))).1
  have k3 := (cell_obj (j := 0) (alloc_two w (.cells #[.bool false] 4) (.cells #[.string ⟨#[]⟩] 9) (.cells #[.int .i64 0] 2))).1
  refine ⟨.tuple #[.string ⟨#[]⟩, .int .i64 0, .bool false], ?_, rfl, below2 (below2 (below_alloc1 _ _) (below_alloc1 _ _)) (below_alloc1 _ _)⟩
  simp [results, Try.results28, go_sem, k1, k2, k3]
theorem range_nil (to : ByteArray) (most : Int) : Calls Try.prog 21 #[.pointer none, .string key, .string to, .int .i64 most] w fun e w' => e = .returned (.slice none 0 0) ∧ Below w.heap.size w w' := by
  refine (callsIn_wide (n := 5)).1 ?_
  refine callsIn_of_wp_marks Try.func21 rfl trivial ?_ rfl
  simp only [Try.ntmps21, List.size_toArray, List.length_cons, List.length_nil, Nat.reduceAdd, Nat.reduceSub, Array.replicate_succ, Array.replicate_zero, List.push_toArray, List.append_toArray, List.nil_append, List.cons_append]
  gi_wp2
  refine ⟨_, results_tmp rfl _ _ _, rfl, below2 (below_alloc1 _ _) (below_alloc1 _ _)⟩
end

end Go.Proofs.Ytkfoddblgdmabaa.tr

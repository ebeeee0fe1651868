/- Layer 10: a tree that nobody made. -/
import Derived.Test.YtkfoddblgdmababTrTRange
import Derived.Test.YtkfoddblgdmababTrTPut
import Derived.Test.YtkfoddblgdmababTrDepth
namespace Go.Proofs.Ytkfoddblgdmabab.tr
open Go.RowKit Go.Shelf

attribute [local go_sem] Oper.semAt_some

section
variable (w : World) (key : ByteArray) (z : Int)
set_option maxHeartbeats 800000
theorem put_nil : Calls Try.prog 9 #[.pointer none, .string key, .int .i64 z] w fun e w' => e = .returned (.tuple #[.bool false, .int .i64 1]) ∧ w' = w := by
  go_enter Try.func9, Try.ntmps9
  go_wp2_with fail
  go_ret2
  exact ⟨rfl, rfl⟩
theorem delete_nil : Calls Try.prog 7 #[.pointer none, .string key] w fun e w' => e = .returned (.bool false) ∧ w' = w := by
  go_enter Try.func7, Try.ntmps7
  go_wp2_with fail
  go_ret
  exact ⟨rfl, rfl⟩
theorem len_nil : Calls Try.prog 14 #[.pointer none] w fun e w' => e = .returned (.int .i64 0) ∧ w' = w := by
  go_enter Try.func14, Try.ntmps14
  go_wp2_with fail
  go_ret
  exact ⟨rfl, rfl⟩
theorem depth_nil : Calls Try.prog 15 #[.pointer none] w fun e w' => e = .returned (.int .i64 0) ∧ w' = w := by
  go_enter Try.func15, Try.ntmps15
  go_wp2_with fail
  go_ret
  exact ⟨rfl, rfl⟩
theorem at_nil : Calls Try.prog 11 #[.pointer none, .string key] w fun e w' => e = .returned (.tuple #[.string ⟨#[]⟩, .int .i64 0, .bool false]) ∧ Below w.heap.size w w' := by
  refine (callsIn_wide (n := 5)).1 ?_
  refine callsIn_of_wp_marks Try.func11 rfl trivial ?_ rfl
  simp only [Try.ntmps11, List.size_toArray, List.length_cons, List.length_nil, Nat.reduceAdd, Nat.reduceSub, Array.replicate_succ, Array.replicate_zero, List.push_toArray, List.append_toArray, List.nil_append, List.cons_append]
  gi_wp2
  have k1 := (cell_obj (j := 0) (alloc_first w (.cells #[.bool false] 4) (.cells #[.string ⟨#[]⟩] 9) (.cells #[.int .i64 0] 2))).1
  have k2 := (cell_obj (j := 0) (alloc_second w (.cells #[.bool false] 4) (.cells #[.string ⟨#[]⟩] 9) (.cells #[.int .i64 0] 2))).1
  have k3 := (cell_obj (j := 0) (alloc_two w (.cells #[.bool false] 4) (.cells #[.string ⟨#[]⟩] 9) (.cells #[.int .i64 0] 2))).1
  refine ⟨.tuple #[.string ⟨#[]⟩, .int .i64 0, .bool false], ?_, rfl, below2 (below2 (below_alloc1 _ _) (below_alloc1 _ _)) (below_alloc1 _ _)⟩
  simp [results, Try.results11, go_sem, k1, k2, k3]
theorem before_nil : Calls Try.prog 12 #[.pointer none, .string key] w fun e w' => e = .returned (.tuple #[.string ⟨#[]⟩, .int .i64 0, .bool false]) ∧ Below w.heap.size w w' := by
  refine (callsIn_wide (n := 5)).1 ?_
  refine callsIn_of_wp_marks Try.func12 rfl trivial ?_ rfl
  simp only [Try.ntmps12, List.size_toArray, List.length_cons, List.length_nil, Nat.reduceAdd, Nat.reduceSub, Array.replicate_succ, Array.replicate_zero, List.push_toArray, List.append_toArray, List.nil_append, List.cons_append]
  gi_wp2
  have k1 := (cell_obj (j := 0) (alloc_first w (.cells #[.bool false] 4) (.cells #[.string ⟨#[]⟩] 9) (.cells #[.int .i64 0] 2))).1
  have k2 := (cell_obj (j := 0) (alloc_second w (.cells #[.bool false] 4) (.cells #[.string ⟨#[]⟩] 9) (.cells #[.int .i64 0] 2))).1
  have k3 := (cell_obj (j := 0) (alloc_two w (.cells #[.bool false] 4) (.cells #[.string ⟨#[]⟩] 9) (.cells #[.int .i64 0] 2))).1
  refine ⟨.tuple #[.string ⟨#[]⟩, .int .i64 0, .bool false], ?_, rfl, below2 (below2 (below_alloc1 _ _) (below_alloc1 _ _)) (below_alloc1 _ _)⟩
  simp [results, Try.results12, go_sem, k1, k2, k3]
theorem range_nil (to : ByteArray) (most : Int) : Calls Try.prog 13 #[.pointer none, .string key, .string to, .int .i64 most] w fun e w' => e = .returned (.slice none 0 0) ∧ Below w.heap.size w w' := by
  refine (callsIn_wide (n := 5)).1 ?_
  refine callsIn_of_wp_marks Try.func13 rfl trivial ?_ rfl
  simp only [Try.ntmps13, List.size_toArray, List.length_cons, List.length_nil, Nat.reduceAdd, Nat.reduceSub, Array.replicate_succ, Array.replicate_zero, List.push_toArray, List.append_toArray, List.nil_append, List.cons_append]
  gi_wp2
  refine ⟨_, results_tmp rfl _ _ _, rfl, below2 (below_alloc1 _ _) (below_alloc1 _ _)⟩
end

end Go.Proofs.Ytkfoddblgdmabab.tr

/- DevNone: the walk. -/
import Derived.Test.YthodnhcnaeajnaaDWakes
namespace Go.Proofs.Ythodnhcnaeajnaa
open Go.RowKit

section
variable (w : World)

theorem nArm (x : Int) : Calls Try.prog 16 #[.pointer none, .int .i64 x] w fun e w' => e = .returned (.tuple #[]) ∧ w' = w := by
  go_enter Try.func16, Try.ntmps16
  go_wp2_with fail
  go_end0
  exact ⟨rfl, rfl⟩

theorem nRefuse (x : Int) : Calls Try.prog 21 #[.pointer none, .int .i64 x] w fun e w' => e = .returned (.tuple #[]) ∧ w' = w := by
  go_enter Try.func21, Try.ntmps21
  go_wp2_with fail
  go_end0
  exact ⟨rfl, rfl⟩

theorem nCrash : Calls Try.prog 18 #[.pointer none, .slice none 0 0] w fun e w' => e = .returned (.tuple #[]) ∧ w' = w := by
  go_enter Try.func18, Try.ntmps18
  go_wp2_with fail
  exact bodyPost_ret (v := .tuple #[]) (by simp [results, Try.results18, go_sem]) rfl ⟨rfl, rfl⟩

theorem nRead (x : Int) : Calls Try.prog 23 #[.pointer none, .int .i64 x] w fun e w' => e = .returned (.tuple #[.string ⟨#[]⟩, .int .i64 41]) ∧ w' = w := by
  go_enter Try.func23, Try.ntmps23
  go_wp2_with fail
  exact bodyPost_ret (v := .tuple #[.string ⟨#[]⟩, .int .i64 41]) (by simp [results, Try.results23, go_sem]) rfl ⟨rfl, rfl⟩

theorem nWrite (x : Int) (s : ByteArray) : Calls Try.prog 11 #[.pointer none, .int .i64 x, .string s] w fun e w' => e = .returned (.int .i64 41) ∧ w' = w := by
  go_enter Try.func11, Try.ntmps11
  go_wp2_with fail
  go_ret
  exact ⟨rfl, rfl⟩

theorem nDown : Calls Try.prog 29 #[.pointer none] w fun e w' => e = .returned (.bool true) ∧ w' = w := by
  go_enter Try.func29, Try.ntmps29
  go_wp2_with fail
  go_ret
  exact ⟨rfl, rfl⟩

theorem nFlush : Calls Try.prog 14 #[.pointer none] w fun e w' => e = .returned (.int .i64 41) ∧ w' = w := by
  have c := nDown w
  go_enter Try.func14, Try.ntmps14
  go_wp2_with fail
  refine c.mono ?_
  rintro e w1 ⟨rfl, e1⟩
  rw [e1]
  go_wp2_with fail
  go_ret
  exact ⟨rfl, rfl⟩

theorem nSectors : Calls Try.prog 31 #[.pointer none] w fun e w' => e = .returned (.int .i64 0) ∧ w' = w := by
  go_enter Try.func31, Try.ntmps31
  go_wp2_with fail
  go_ret
  exact ⟨rfl, rfl⟩

theorem nHeld : Calls Try.prog 25 #[.pointer none] w fun e w' => e = .returned (.int .i64 0) ∧ w' = w := by
  go_enter Try.func25, Try.ntmps25
  go_wp2_with fail
  go_ret
  exact ⟨rfl, rfl⟩

theorem nOps : Calls Try.prog 27 #[.pointer none] w fun e w' => e = .returned (.int .i64 0) ∧ w' = w := by
  go_enter Try.func27, Try.ntmps27
  go_wp2_with fail
  go_ret
  exact ⟨rfl, rfl⟩
end

set_option maxHeartbeats 1600000 in
set_option maxRecDepth 100000 in
theorem devNone_walk (x : Int) (w : World) (_h : -9223372036854775808 ≤ x ∧ x ≤ 9223372036854775807) :
    Calls Try.prog 6 #[.int .i64 x] w fun e w' => e = .returned (.bool true) ∧ Below w.heap.size w w' := by
  go_enter Try.func6, Try.ntmps6
  go_wp2_with fail
  refine (nArm w x).mono ?_
  rintro e w1 ⟨rfl, e1⟩
  rw [e1]
  go_wp2_with fail
  refine (nRefuse w x).mono ?_
  rintro e w2 ⟨rfl, e2⟩
  rw [e2]
  go_wp2_with fail
  refine (nCrash w).mono ?_
  rintro e w3 ⟨rfl, e3⟩
  rw [e3]
  go_wp2_with fail
  refine (nRead w x).mono ?_
  rintro e w4 ⟨rfl, e4⟩
  rw [e4]
  clear e1 e2 e3 e4
  go_wp2_with fail
  refine (block_any 1 1 rfl w).mono ?_
  rintro e w5 ⟨rfl, b5⟩
  go_wp2_with fail
  refine (nWrite w5 x _).mono ?_
  rintro e w6 ⟨rfl, e6⟩
  rw [e6]
  go_wp2_with fail
  refine (nFlush w5).mono ?_
  rintro e w7 ⟨rfl, e7⟩
  rw [e7]
  go_wp2_with fail
  refine (nSectors w5).mono ?_
  rintro e w8 ⟨rfl, e8⟩
  rw [e8]
  go_wp2_with fail
  refine (nHeld w5).mono ?_
  rintro e w9 ⟨rfl, e9⟩
  rw [e9]
  go_wp2_with fail
  refine (nOps w5).mono ?_
  rintro e w10 ⟨rfl, e10⟩
  rw [e10]
  go_wp2_with fail
  refine (nDown w5).mono ?_
  rintro e w11 ⟨rfl, e11⟩
  rw [e11]
  go_wp2_with fail
  refine (wakes_any w5).mono ?_
  rintro e w12 ⟨rfl, b12⟩
  go_wp2_with fail
  go_ret
  exact ⟨rfl, below2 b5 b12⟩

end Go.Proofs.Ythodnhcnaeajnaa

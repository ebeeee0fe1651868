/- throw, flush, write: the device's error is thrown. -/
import Derived.Test.YtlapgalefpenbaaLCrash
import Derived.Recover
import Derived.Defers
import Derived.WalkLawsBesides
namespace Go.Proofs.Ytlapgalefpenbaa
open Go.RowKit

/-- An error that is thrown. -/
def pan (e : Int) : List PanicEntry := [{ v := .iface 27 (.int .i64 e), recovered := false }]
/-- How a call ends that throws. -/
def dexit : Option Int → Ending
  | none => .returned (.tuple #[])
  | some e => .panicked (pan e)

theorem wrap_nat (m : Nat) (h : m ≤ 9223372036854775807) : IntKind.i64.wrap (m : Int) = (m : Int) := by
  rw [IntKind.wrap_i64]
  omega

theorem DTo.pre {B : Nat} {w0 w w' : World} {g gs : Nat} {hv : Value} {D' : DS} (hb : Below w0.heap.size w0 w) (z : DTo B w g gs hv D' w') : DTo B w0 g gs hv D' w' := by
  obtain ⟨hv', d', f, gr⟩ := z
  exact ⟨hv', d', (Fr.of_below hb).trans f (fun _ _ x => x), fun k e => (gr k e).imp id (fun h => Nat.le_trans hb.size h)⟩
theorem DTo.block {B : Nat} {w w' : World} {g gs : Nat} {hv : Value} {D' : DS} (z : DTo B w g gs hv D' w') {k : Nat} (hk : k < w.heap.size) (hn : ¬ foot g gs hv k) : w'.heap[k]? = w.heap[k]? := by
  obtain ⟨_, _, f, _⟩ := z
  exact f.block k hk hn
theorem DTo.cell {B : Nat} {w w' : World} {g gs : Nat} {hv : Value} {D' : DS} (z : DTo B w g gs hv D' w') {k o : Nat} {v : Value} (h : w.cell? ⟨k, o, none⟩ = some v) (hn : ¬ foot g gs hv k) : w'.cell? ⟨k, o, none⟩ = some v :=
  (World.cell?_of_block (a := ⟨k, o, none⟩) (z.block (World.block_lt_of_cell? w _ h) hn)).trans h
theorem below_drew (w : World) : Below w.heap.size w w.drew := (Below.refl _ w).drew

set_option maxHeartbeats 400000 in
theorem throw_ok (w : World) : Calls Try.prog 59 #[.int .i64 0] w fun e w' => e = .returned (.tuple #[]) ∧ w' = w := by
  go_enter Try.func59, Try.ntmps59
  go_wp2_with fail
  go_end0
  exact ⟨rfl, rfl⟩

set_option maxHeartbeats 400000 in
theorem throw_no (x : Int) (hx : x = 41 ∨ x = 42) (w : World) : Calls Try.prog 59 #[.int .i64 x] w fun e w' => e = .panicked (pan x) ∧ w' = w := by
  rcases hx with rfl | rfl
  · go_enter Try.func59, Try.ntmps59
    go_wp2_with fail
    exact ⟨rfl, rfl, rfl⟩
  · go_enter Try.func59, Try.ntmps59
    go_wp2_with fail
    exact ⟨rfl, rfl, rfl⟩

end Go.Proofs.Ytlapgalefpenbaa

/- The contracts of the document's Name, Good, Blank, Compare, and of the statements' own helpers Value, LargeValue. -/
import Derived.Test.YtijpnlomfodihabDoorVOrd
import Derived.WalkKit
namespace Go.Proofs.YtijpnlomfodihabDoor
open Go.RowKit

theorem ne_beq {a b : Int} (h : a ≠ b) : (a == b) = false := by rw [beq_eq_false_iff_ne]; exact h
theorem list_ne {a b : ByteArray} (h : a ≠ b) : (a.toList == b.toList) = false := by rw [list_eq]; simpa using h

set_option maxHeartbeats 400000 in
theorem largeValue_any (v : V) (w : World) (b : Bool) (hb : decide (5000 < v.s.size) = b) :
    Calls Tryd.prog 11 #[v.val] w fun e w' => e = .returned (.bool b) ∧ Below w.heap.size w w' := by
  obtain ⟨k, n, s⟩ := v
  simp only [V.val] at *
  cases b with
  | true =>
    have h : (5000 : Int) < (s.size : Int) := by simp at hb; omega
    clear hb
    go_enter Tryd.func11, Tryd.ntmps11
    go_wp2
    go_ret
    exact ⟨rfl, below_alloc1 _ _⟩
  | false =>
    have h : ¬ (5000 : Int) < (s.size : Int) := by simp at hb; omega
    clear hb
    go_enter Tryd.func11, Tryd.ntmps11
    go_wp2
    go_ret
    exact ⟨rfl, below_alloc1 _ _⟩

theorem below_two (W : World) (a b : Obj) : Below W.heap.size W ((W.alloc a).alloc b) := below2 (below_alloc1 W a) (below_alloc1 _ b)


end Go.Proofs.YtijpnlomfodihabDoor

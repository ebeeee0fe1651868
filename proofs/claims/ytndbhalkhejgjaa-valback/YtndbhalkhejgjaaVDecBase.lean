/- Words for val.Decode. -/
import Derived.Test.YtndbhalkhejgjaaVKindAt
import Derived.Test.YtndbhalkhejgjaaVDec
import Derived.Test.YtndbhalkhejgjaaRefGetInt
namespace Go.Proofs.Ytndbhalkhejgjaa
open Go.RowKit
attribute [local go_sem ↓] Go.wp_at_zero Go.wp_at_succ

/-- What Decode answers. -/
def gotW (d : V × Nat × Bool) : Value := .tuple #[.agg #[.int .i64 d.1.k, .int .i64 d.1.n, .string d.1.s], .int .i64 (d.2.1 : Int), .bool d.2.2]

theorem wrap_succ (p : Nat) (h : p ≤ 281474976710656) : IntKind.i64.wrap ((p : Int) + 1) = (p : Int) + 1 := by
  rw [IntKind.wrap_i64]
  omega

theorem run_rest (s : ByteArray) (p : Nat) (h : p < s.size) (W : World) : (Instr.slice 9 (.string s) (some (.int .i64 ((p : Int) + 1))) none none).run Try.prog W = .ok (.string (rest s (p + 1))) W := by
  have h1 := run_slice_string_l (P := Try.prog) (w := W) (t := 9) (s := s) Try.underlying9 .i64 ((p : Int) + 1) (by omega) (by omega)
  rw [show ((p : Int) + 1).toNat = p + 1 by omega] at h1
  exact h1

theorem drew_below {a b : World} (h : Below a.drew.heap.size a.drew b) : Below a.heap.size a b := ((Below.refl _ a).drew).trans h

theorem drew_alloc_below {a b : World} {o : Obj} (h : Below (a.drew.alloc o).heap.size (a.drew.alloc o) b) : Below a.heap.size a b :=
  (((Below.refl _ a).drew).alloc (Nat.le_refl _) o).trans (h.mono (by simp))

theorem drew_below_any {a a' b : World} (h : Below a'.heap.size a' b) (e : a' = a.drew ∨ ∃ o, a' = a.drew.alloc o) : Below a.heap.size a b := by
  rcases e with rfl | ⟨o, rfl⟩
  · exact drew_below h
  · exact drew_alloc_below h

theorem alloc_cell {w : World} {o : Obj} {b i : Nat} (h : b < w.heap.size) : (w.alloc o).cell? ⟨b, i, none⟩ = w.cell? ⟨b, i, none⟩ := (below_alloc1 w o).cell (p := ⟨b, i, none⟩) h

theorem set3_cell {w : World} {H b i : Nat} {x y z : Value} (h : b ≠ H) : (((w.setCell ⟨H, 0, none⟩ x).setCell ⟨H, 1, none⟩ y).setCell ⟨H, 2, none⟩ z).cell? ⟨b, i, none⟩ = w.cell? ⟨b, i, none⟩ := by
  have hn : ∀ (W : World) (o : Nat) (u : Value), (W.setCell ⟨H, o, none⟩ u).cell? ⟨b, i, none⟩ = W.cell? ⟨b, i, none⟩ := fun W o u => World.cell?_setCell_far W ⟨H, o, none⟩ ⟨b, i, none⟩ u (Ne.symm h)
  rw [hn, hn, hn]

theorem below_end {w wc wd : World} {z : Obj} (h0 : Below (w.alloc z).heap.size (w.alloc z) wc) (h1 : Below wc.heap.size wc wd) (a b c : Value) :
    Below w.heap.size w (((wd.setCell ⟨w.heap.size, 0, none⟩ a).setCell ⟨w.heap.size, 1, none⟩ b).setCell ⟨w.heap.size, 2, none⟩ c) := by
  have h2 : Below w.heap.size w wd := below3 (below_alloc1 w z) h0 h1
  exact ((h2.setCell (p := ⟨w.heap.size, 0, none⟩) (Nat.le_refl _) a).setCell (p := ⟨w.heap.size, 1, none⟩) (Nat.le_refl _) b).setCell (p := ⟨w.heap.size, 2, none⟩) (Nat.le_refl _) c

end Go.Proofs.Ytndbhalkhejgjaa

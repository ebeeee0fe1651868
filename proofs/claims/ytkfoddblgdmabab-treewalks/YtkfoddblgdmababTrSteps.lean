/- Layer 10: a step's calls of both trees, in regions that draw their order; arguments of two texts. -/
import Derived.Test.YtkfoddblgdmababTrLaw
import Derived.Test.YtkfoddblgdmababTrSame
import Derived.Test.YtkfoddblgdmababTrArgs
namespace Go.Proofs.Ytkfoddblgdmabab.tr
open Go.RowKit Go.ChangeShapes Go.WideShapes Go.ChangeAt Go.Deep


/-- A step's cells, in a list that came in. -/
structure StC (w : World) (b off i : Nat) (s : Sp) : Prop where
  lt : b < w.heap.size
  c0 : w.cell? ⟨b, off + i * 3, none⟩ = some (.int .i64 s.kind)
  c1 : w.cell? ⟨b, off + i * 3 + 1, none⟩ = some (.string s.key)
  c2 : w.cell? ⟨b, off + i * 3 + 2, none⟩ = some (.int .i64 s.n)
theorem StC.below {w w' : World} {b off i : Nat} {s : Sp} (h : StC w b off i s) (hb : Below w.heap.size w w') : StC w' b off i s :=
  ⟨by have := hb.size; have := h.lt; omega, (hb.cell (p := ⟨b, _, none⟩) h.lt).trans h.c0, (hb.cell (p := ⟨b, _, none⟩) h.lt).trans h.c1, (hb.cell (p := ⟨b, _, none⟩) h.lt).trans h.c2⟩
theorem SlG.step {w : World} {a : Option Addr} {L : List Sp} (h : SlS w a L) {i : Nat} {s : Sp} (hi : L[i]? = some s) : ∃ b off, a = some ⟨b, off, none⟩ ∧ StC w b off i s := by
  rcases h with h | ⟨b, off, e, hlt, hr⟩
  · rw [h] at hi; simp at hi
  · have h0 := hr i s hi 0 _ rfl
    rw [Nat.add_zero] at h0
    exact ⟨b, off, e, hlt, h0, hr i s hi 1 _ rfl, hr i s hi 2 _ rfl⟩

end Go.Proofs.Ytkfoddblgdmabab.tr

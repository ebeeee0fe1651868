/- Layer 10: a step's calls of both trees, in regions that draw their order; arguments of two texts. -/
import Derived.Test.YtkfoddblgdmabaaTrLaw
import Derived.Test.YtkfoddblgdmabaaTrSame
import Derived.Test.YtkfoddblgdmabaaTrArgs
namespace Go.Proofs.Ytkfoddblgdmabaa.tr
open Go.RowKit Go.ChangeShapes Go.WideShapes Go.ChangeAt Go.Deep

theorem cellsTwo : Try.prog.cellsOf 48 = 2 := by kernel_rfl
theorem listTwo {α : Type} (l : List α) (h : l.length = 2) : ∃ a b, l = [a, b] := by
  match l, h with
  | [a, b], _ => exact ⟨a, b, rfl⟩
set_option maxRecDepth 100000 in
theorem open_two {H : Type} {enc : TypeId × Value → H} {W : World} {base : Nat} {v : Value} {d : DataW H} {ps : List MemPlace}
    (hv : Value.okWide Try.prog W .any base 48 v) (h : DataW.Trod enc Try.prog W 0 (fun _ => true) true 48 v d ps) : ∃ s0 s1, v = .agg #[.string s0, .string s1] := by
  obtain ⟨cs, rfl, hsz, _⟩ : ∃ cs, v = .agg cs ∧ cs.size = Try.prog.cellsOf 48 ∧ Row.okWide Try.prog W .any base 48 cs := by
    simpa [Value.okWide, Try.underlying48] using hv
  rw [cellsTwo] at hsz
  obtain ⟨l⟩ := cs
  obtain ⟨c0, c1, rfl⟩ := listTwo l hsz
  obtain ⟨fuel, hf⟩ := h
  obtain ⟨xs, m, _, _, _, hl, hx⟩ := DataW.trod_array Try.underlying48 hf
  have e0 := hx 0 (by omega)
  have e1 := hx 1 (by omega)
  rw [cellsStr] at e0 e1
  have g0 : xs[0]? = some xs[0] := by simp
  have g1 : xs[1]? = some xs[1] := by simp
  rw [g0] at e0
  rw [g1] at e1
  obtain ⟨s0, h0, _⟩ := DataW.trod_string Try.underlying9 e0
  obtain ⟨s1, h1, _⟩ := DataW.trod_string Try.underlying9 e1
  simp [Value.cells] at h0 h1
  exact ⟨s0, s1, by rw [h0, h1]⟩

/-- A step's cells, in a list that came in. -/
structure StC (w : World) (b off i : Nat) (s : Sp) : Prop where
  lt : b < w.heap.size
  c0 : w.cell? ⟨b, off + i * 3, none⟩ = some (.int .i64 s.kind)
  c1 : w.cell? ⟨b, off + i * 3 + 1, none⟩ = some (.string s.key)
  c2 : w.cell? ⟨b, off + i * 3 + 2, none⟩ = some (.int .i64 s.n)
theorem StC.below {w w' : World} {b off i : Nat} {s : Sp} (h : StC w b off i s) (hb : Below w.heap.size w w') : StC w' b off i s :=
  ⟨by have := hb.size; have := h.lt; omega, (hb.cell (p := ⟨b, _, none⟩) h.lt).trans h.c0, (hb.cell (p := ⟨b, _, none⟩) h.lt).trans h.c1, (hb.cell (p := ⟨b, _, none⟩) h.lt).trans h.c2⟩
theorem SlG.step {w : World} {a : Option Addr} {L : List Sp} (h : SlS w a L) {i : Nat} {s : Sp} (hi : L[i]? = some s) : ∃ b off, a = some ⟨b, off, none⟩ ∧ StC w b off i s := by
  rcases h with h | ⟨b, off, e, hlt, hr⟩
  · rw [h] at hi; simp at hi
  · have h0 := hr i s hi 0 _ rfl
    rw [Nat.add_zero] at h0
    exact ⟨b, off, e, hlt, h0, hr i s hi 1 _ rfl, hr i s hi 2 _ rfl⟩

end Go.Proofs.Ytkfoddblgdmabaa.tr

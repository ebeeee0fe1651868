/- A value in a box of its own; two texts in one. -/
import Derived.Test.YtndbhalkhejgjabVSl
import Derived.Test.YtndbhalkhejgjabVLawsMath
namespace Go.Proofs.Ytndbhalkhejgjab
open Go.RowKit Go.ChangeShapes Go.WideShapes Go.ChangeAt

structure C3 (w : World) (b : Nat) (v : V) : Prop where
  c0 : w.cell? ⟨b, 0, none⟩ = some (.int .i64 v.k)
  c1 : w.cell? ⟨b, 1, none⟩ = some (.int .i64 v.n)
  c2 : w.cell? ⟨b, 2, none⟩ = some (.string v.s)

theorem C3.new (w : World) (v : V) (t : TypeId) {H : Nat} (hH : w.heap.size = H) : C3 (w.alloc (.cells #[.int .i64 v.k, .int .i64 v.n, .string v.s] t)) H v := by
  subst hH
  constructor <;> simp

theorem C3.kept {w w' : World} {B b : Nat} {v : V} (h : C3 w b v) (hb : Below B w w') (hB : b < B) : C3 w' b v :=
  ⟨(hb.cell (p := ⟨b, 0, none⟩) hB).trans h.c0, (hb.cell (p := ⟨b, 1, none⟩) hB).trans h.c1, (hb.cell (p := ⟨b, 2, none⟩) hB).trans h.c2⟩

/-- The first and the second of a list in memory. -/
theorem Sl.first {w : World} {a : Option Addr} {p : Pr} {l : List Pr} (h : Sl w a (p :: l)) : ∃ b off, a = some ⟨b, off, none⟩ ∧ b < w.heap.size ∧
    w.cell? ⟨b, off, none⟩ = some (.string p.name) ∧ w.cell? ⟨b, off + 1, none⟩ = some (.int .i64 p.v.k) ∧ w.cell? ⟨b, off + 2, none⟩ = some (.int .i64 p.v.n) ∧ w.cell? ⟨b, off + 3, none⟩ = some (.string p.v.s) := by
  rcases h with h | ⟨b, off, e, hb, hr⟩
  · cases h
  · obtain ⟨e0, e1, e2, e3⟩ := hr 0 p (by simp)
    simp only [Nat.zero_mul, Nat.add_zero] at e0 e1 e2 e3
    exact ⟨b, off, e, hb, e0, e1, e2, e3⟩

theorem Sl.names {w : World} {a : Option Addr} {p q : Pr} {l : List Pr} (h : Sl w a (p :: q :: l)) : ∃ b off, a = some ⟨b, off, none⟩ ∧ b < w.heap.size ∧
    w.cell? ⟨b, off, none⟩ = some (.string p.name) ∧ w.cell? ⟨b, off + 4, none⟩ = some (.string q.name) := by
  rcases h with h | ⟨b, off, e, hb, hr⟩
  · cases h
  · obtain ⟨e0, _, _, _⟩ := hr 0 p (by simp)
    obtain ⟨g0, _, _, _⟩ := hr 1 q (by simp)
    simp only [Nat.zero_mul, Nat.one_mul, Nat.add_zero] at e0 g0
    exact ⟨b, off, e, hb, e0, g0⟩

theorem Try.cellsTwo : Try.prog.cellsOf 23 = 2 := by kernel_rfl

theorem listTwo {α : Type} (l : List α) (h : l.length = 2) : ∃ a b, l = [a, b] := by
  match l, h with
  | [a, b], _ => exact ⟨a, b, rfl⟩

theorem open_texts {H : Type} {enc : TypeId × Value → H} {W : World} {base : Nat} {v : Value} {d : DataW H} {ps : List MemPlace}
    (hv : Value.okWide Try.prog W .any base 23 v) (h : DataW.Trod enc Try.prog W 0 (fun _ => true) true 23 v d ps) : ∃ s0 s1, v = .agg #[.string s0, .string s1] := by
  obtain ⟨cs, rfl, hsz, _⟩ : ∃ cs, v = .agg cs ∧ cs.size = Try.prog.cellsOf 23 ∧ Row.okWide Try.prog W .any base 23 cs := by
    simpa [Value.okWide, Try.underlying23] using hv
  rw [Try.cellsTwo] at hsz
  obtain ⟨l⟩ := cs
  obtain ⟨c0, c1, rfl⟩ := listTwo l hsz
  obtain ⟨fuel, hf⟩ := h
  obtain ⟨xs, m, _, _, _, hl, hx⟩ := DataW.trod_array Try.underlying23 hf
  have e0 := hx 0 (by omega)
  have e1 := hx 1 (by omega)
  rw [Try.cellsStr] at e0 e1
  have g0 : xs[0]? = some xs[0] := by simp
  have g1 : xs[1]? = some xs[1] := by simp
  rw [g0] at e0
  rw [g1] at e1
  obtain ⟨s0, h0, _⟩ := DataW.trod_string Try.underlying9 e0
  obtain ⟨s1, h1, _⟩ := DataW.trod_string Try.underlying9 e1
  simp [Value.cells] at h0 h1
  exact ⟨s0, s1, by rw [h0, h1]⟩

end Go.Proofs.Ytndbhalkhejgjab

/- Values and lists of properties among a statement's arguments, opened. -/
import Derived.Test.YtndbhalkhejgjaaVList
import Derived.Deep.Slices
import Derived.Deep.Strs
import Derived.Lib.SmallJoins
import Derived.ProofKit
import Derived.OpenShut
namespace Go.Proofs.Ytndbhalkhejgjaa
open Go.RowKit Go.ChangeShapes Go.WideShapes Go.ChangeAt Go.Deep

theorem Try.cellsV : Try.prog.cellsOf 23 = 3 := by kernel_rfl
theorem Try.cellsP : Try.prog.cellsOf 62 = 4 := by kernel_rfl
theorem Try.cellsInt : Try.prog.cellsOf 3 = 1 := by kernel_rfl
theorem Try.cellsLong : Try.prog.cellsOf 2 = 1 := by kernel_rfl
theorem Try.cellsStr : Try.prog.cellsOf 9 = 1 := by kernel_rfl

section
variable {H : Type} {enc : TypeId × Value → H} {W : World} {base : Nat}

set_option maxRecDepth 100000 in
/-- Three cells that read as a value are one. -/
theorem trod_value {fuel : Nat} {cs : List Value} {x : DataW H × List MemPlace} (h : DataW.trod enc Try.prog W 0 (fun _ => true) true fuel 23 cs = some x) :
    ∃ v : V, cs = v.cells ∧ v.ok ∧ v.s.size ≤ maxLen := by
  obtain ⟨y0, y1, y2, n, _, hl, h0, h1, h2⟩ := trod_struct3 Try.underlying23 h
  rw [Try.cellsV] at hl
  match cs, hl with
  | [a, b, c], _ =>
    obtain ⟨k, e0, _, w0⟩ := DataW.trod_int (t := 3) Try.underlying3 h0
    obtain ⟨m, e1, _, w1⟩ := DataW.trod_int (t := 2) Try.underlying2 h1
    obtain ⟨s, e2, _, w2⟩ := DataW.trod_string (t := 9) Try.underlying9 h2
    simp [Try.cellsInt, Try.cellsLong, Try.cellsStr] at e0 e1 e2
    subst e0 e1 e2
    exact ⟨⟨k, m, s⟩, rfl, ⟨(bounds_i64 w0).1, (bounds_i64 w0).2, (bounds_i64 w1).1, (bounds_i64 w1).2⟩, w2⟩

set_option maxRecDepth 100000 in
theorem open_value {v : Value} {d : DataW H} {ps : List MemPlace} (hv : Value.okWide Try.prog W .any base 23 v) (h : DataW.Trod enc Try.prog W 0 (fun _ => true) true 23 v d ps) :
    ∃ x : V, v = x.val ∧ x.ok ∧ x.s.size ≤ maxLen := by
  obtain ⟨cs, rfl, hsz⟩ := okWide_struct Try.underlying23 hv
  obtain ⟨fuel, hf⟩ := h
  obtain ⟨x, hx, hok, hs⟩ := trod_value hf
  refine ⟨x, ?_, hok, hs⟩
  obtain ⟨l⟩ := cs
  simp [Value.cells] at hx
  subst hx
  rfl

set_option maxRecDepth 100000 in
/-- Four cells that read as a property are one. -/
theorem trod_prop {fuel : Nat} {cs : List Value} {x : DataW H × List MemPlace} (h : DataW.trod enc Try.prog W 0 (fun _ => true) true fuel 62 cs = some x) :
    ∃ p : Pr, cs = p.cells ∧ p.v.ok ∧ p.v.s.size ≤ maxLen ∧ p.name.size ≤ maxLen := by
  obtain ⟨y0, y1, n, _, hl, h0, h1⟩ := trod_struct2 Try.underlying62 h
  rw [Try.cellsP] at hl
  match cs, hl with
  | [a, b, c, d], _ =>
    obtain ⟨m, e0, _, w0⟩ := DataW.trod_string (t := 9) Try.underlying9 h0
    obtain ⟨v, e1, hok, w1⟩ := trod_value h1
    simp [Try.cellsStr, Try.cellsV, V.cells] at e0 e1
    obtain ⟨rfl, rfl, rfl⟩ := e1
    subst e0
    exact ⟨⟨m, v⟩, rfl, hok, w1, w0⟩

/-- A list of properties in memory, wherever it lies; an empty one anywhere. -/
def Sl (w : World) (a : Option Addr) (L : List Pr) : Prop := L = [] ∨ ∃ b off, a = some ⟨b, off, none⟩ ∧ b < w.heap.size ∧ Rd w b off L

theorem Sl.kept {w w' : World} {a : Option Addr} {L : List Pr} (h : Sl w a L) (hb : Below w.heap.size w w') : Sl w' a L := by
  rcases h with h | ⟨b, off, e, hlt, hr⟩
  · exact Or.inl h
  · exact Or.inr ⟨b, off, e, by have := hb.size; omega, hr.kept hb hlt⟩

set_option maxRecDepth 100000 in
theorem open_props {v : Value} {d : DataW H} {ps : List MemPlace} (hv : Value.okWide Try.prog W .any base 37 v) (h : DataW.Trod enc Try.prog W 0 (fun _ => true) true 37 v d ps) :
    ∃ (a : Option Addr) (L : List Pr) (cap : Nat), v = .slice a L.length cap ∧ Sl W a L ∧ (∀ p ∈ L, p.v.ok ∧ p.v.s.size ≤ maxLen ∧ p.name.size ≤ maxLen) ∧ L.length ≤ maxLen ∧ (a = none → cap = 0) := by
  obtain ⟨a0, len, cap, rfl⟩ := okWide_slice Try.underlying37 hv
  obtain ⟨fuel, hf⟩ := h
  rcases open_slice Try.underlying37 hf with ⟨hcs, _⟩ | ⟨a, l, c, m, n, D, Pl, hcs, _, hl, hm, hmm, _, hx⟩
  · simp [Value.cells] at hcs
    obtain ⟨rfl, rfl, rfl⟩ := hcs
    exact ⟨none, [], 0, rfl, Or.inl rfl, by simp, Nat.zero_le _, fun _ => rfl⟩
  · simp [Value.cells] at hcs
    obtain ⟨rfl, rfl, rfl⟩ := hcs
    have hml : len ≤ m := by rw [hmm]; split <;> omega
    rw [Try.cellsP] at hx
    have inst : Inhabited Pr := ⟨⟨⟨#[]⟩, ⟨0, 0, ⟨#[]⟩⟩⟩⟩
    obtain ⟨f, hfn⟩ := choose_lt (α := Pr) (n := len) (p := fun i p => W.cells? 0 (a.add (i * 4)) 4 = some p.cells ∧ p.v.ok ∧ p.v.s.size ≤ maxLen ∧ p.name.size ≤ maxLen) (fun i hi => by
      obtain ⟨cs', h1, h2⟩ := hx i (by omega)
      obtain ⟨p, rfl, hp⟩ := trod_prop h2
      exact ⟨p, h1, hp⟩)
    have hlen : ((List.range len).map f).length = len := by simp
    refine ⟨some a, (List.range len).map f, cap, by rw [hlen], ?_, ?_, by rw [hlen]; omega, fun h => by cases h⟩
    · by_cases h0 : len = 0
      · subst h0; exact Or.inl rfl
      · right
        obtain ⟨b, off, spot⟩ := a
        have hc0 : W.cell? (⟨b, off, spot⟩ : Addr) = some (.string (f 0).name) := by
          have := (World.cells?_some (hfn 0 (by omega)).1).2.2 0 (by omega)
          simpa [Pr.cells, Addr.add] using this
        have hspot : spot = none := by simpa using World.cell?_spot hc0
        subst hspot
        refine ⟨b, off, rfl, World.block_lt_of_cell? W _ hc0, ?_⟩
        intro i p hp
        have hi : i < len := by
          have := (List.getElem?_eq_some_iff.1 hp).1
          simpa using this
        have hpe : p = f i := by
          simp [hi] at hp
          exact hp.symm
        subst hpe
        have hc := (World.cells?_some (hfn i hi).1).2.2
        have e0 := hc 0 (by omega)
        have e1 := hc 1 (by omega)
        have e2 := hc 2 (by omega)
        have e3 := hc 3 (by omega)
        rw [Addr.add_lit, Addr.add_lit] at e0 e1 e2 e3
        exact ⟨e0, e1, e2, e3⟩
    · intro p hp
      simp only [List.mem_map, List.mem_range] at hp
      obtain ⟨i, hi, rfl⟩ := hp
      exact (hfn i hi).2

end
end Go.Proofs.Ytndbhalkhejgjaa

/- Lists of numbers and of steps among a statement's arguments. -/
import Derived.Test.YthodnhcnaeajnaaDWakes
import Derived.Deep.Slices
import Derived.Deep.Strs
import Derived.Lib.SmallJoins
import Derived.ProofKit
import Derived.OpenShut
namespace Go.Proofs.Ythodnhcnaeajnaa
open Go.RowKit Go.ChangeShapes Go.WideShapes Go.ChangeAt Go.Deep

theorem Try.cellsStep : Try.prog.cellsOf 33 = 5 := by kernel_rfl
theorem Try.cellsInt : Try.prog.cellsOf 3 = 1 := by kernel_rfl
theorem Try.cellsInts : Try.prog.cellsOf 31 = 1 := by kernel_rfl

/-- A step. -/
structure St where
  kind : Int
  pos : Int
  n : Int
  fill : UInt8
  ka : Option Addr
  keep : List Int
  kc : Nat

def i64B (x : Int) : Prop := -9223372036854775808 ≤ x ∧ x ≤ 9223372036854775807

structure St.ok (w : World) (s : St) : Prop where
  k : i64B s.kind
  p : i64B s.pos
  n : i64B s.n
  sl : SlI w s.ka s.keep
  nil : s.ka = none → s.kc = 0
  len : s.keep.length ≤ s.kc
  cap : s.kc ≤ maxLen
  each : ∀ x ∈ s.keep, i64B x

def St.cells (s : St) : List Value := [.int .i64 s.kind, .int .i64 s.pos, .int .i64 s.n, .int .u8 (s.fill.toNat : Int), .slice s.ka s.keep.length s.kc]

/-- Steps that lie one behind the other. -/
def RdS (w : World) (b off : Nat) (L : List St) : Prop := ∀ i p, L[i]? = some p →
  w.cell? ⟨b, off + i * 5, none⟩ = some (.int .i64 p.kind) ∧ w.cell? ⟨b, off + i * 5 + 1, none⟩ = some (.int .i64 p.pos) ∧ w.cell? ⟨b, off + i * 5 + 2, none⟩ = some (.int .i64 p.n) ∧
  w.cell? ⟨b, off + i * 5 + 3, none⟩ = some (.int .u8 (p.fill.toNat : Int)) ∧ w.cell? ⟨b, off + i * 5 + 4, none⟩ = some (.slice p.ka p.keep.length p.kc)

/-- A list of steps in memory, wherever it lies; an empty one anywhere. -/
def SlS (w : World) (a : Option Addr) (L : List St) : Prop := L = [] ∨ ∃ b off, a = some ⟨b, off, none⟩ ∧ b < w.heap.size ∧ RdS w b off L

theorem SlS.kept {w w' : World} {a : Option Addr} {L : List St} (h : SlS w a L) (hb : Below w.heap.size w w') : SlS w' a L := by
  rcases h with h | ⟨b, off, e, hlt, hr⟩
  · exact Or.inl h
  · refine Or.inr ⟨b, off, e, by have := hb.size; omega, ?_⟩
    intro i p hp
    obtain ⟨h0, h1, h2, h3, h4⟩ := hr i p hp
    exact ⟨(hb.cell (p := ⟨b, _, none⟩) hlt).trans h0, (hb.cell (p := ⟨b, _, none⟩) hlt).trans h1, (hb.cell (p := ⟨b, _, none⟩) hlt).trans h2, (hb.cell (p := ⟨b, _, none⟩) hlt).trans h3, (hb.cell (p := ⟨b, _, none⟩) hlt).trans h4⟩

section
variable {H : Type} {enc : TypeId × Value → H} {W : World} {base : Nat}

theorem trod_struct5 {P : Program} {spare : Nat → Bool} {held : Bool} {t : TypeId} {f0 f1 f2 f3 f4 : Field} {fuel : Nat} {cs : List Value} {x : DataW H × List MemPlace} (ht : P.underlying t = some (.struct #[f0, f1, f2, f3, f4])) (h : DataW.trod enc P W base spare held fuel t cs = some x) :
    ∃ y0 y1 y2 y3 y4 n, cs.length = P.cellsOf t ∧ DataW.trod enc P W base spare held n f0.type ((cs.drop f0.offset).take (P.cellsOf f0.type)) = some y0 ∧
      DataW.trod enc P W base spare held n f1.type ((cs.drop f1.offset).take (P.cellsOf f1.type)) = some y1 ∧ DataW.trod enc P W base spare held n f2.type ((cs.drop f2.offset).take (P.cellsOf f2.type)) = some y2 ∧
      DataW.trod enc P W base spare held n f3.type ((cs.drop f3.offset).take (P.cellsOf f3.type)) = some y3 ∧ DataW.trod enc P W base spare held n f4.type ((cs.drop f4.offset).take (P.cellsOf f4.type)) = some y4 := by
  obtain ⟨xs, n, _, rfl, hl, hlen, hf⟩ := DataW.trod_struct ht h
  match xs, hlen with
  | [y0, y1, y2, y3, y4], _ => exact ⟨y0, y1, y2, y3, y4, n, hl, by simpa using hf 0 f0 rfl, by simpa using hf 1 f1 rfl, by simpa using hf 2 f2 rfl, by simpa using hf 3 f3 rfl, by simpa using hf 4 f4 rfl⟩

set_option maxRecDepth 100000 in
theorem trod_ints {fuel : Nat} {cs : List Value} {x : DataW H × List MemPlace} (h : DataW.trod enc Try.prog W 0 (fun _ => true) true fuel 31 cs = some x) :
    ∃ (a : Option Addr) (L : List Int) (cap : Nat), cs = [.slice a L.length cap] ∧ SlI W a L ∧ (a = none → cap = 0) ∧ L.length ≤ cap ∧ cap ≤ maxLen ∧ ∀ x ∈ L, i64B x := by
  rcases open_slice Try.underlying31 h with ⟨hcs, _⟩ | ⟨a, l, c, m, n, D, Pl, hcs, _, hl, hm, hmm, _, hx⟩
  · exact ⟨none, [], 0, hcs, Or.inl rfl, fun _ => rfl, Nat.le_refl _, Nat.zero_le _, by simp⟩
  · have hml : l ≤ m := by rw [hmm]; split <;> omega
    rw [Try.cellsInt] at hx
    obtain ⟨f, hfn⟩ := choose_lt (α := Int) (n := l) (p := fun i p => W.cells? 0 (a.add (i * 1)) 1 = some [.int .i64 p] ∧ i64B p) (fun i hi => by
      obtain ⟨cs', h1, h2⟩ := hx i (by omega)
      obtain ⟨k, e0, _, w0⟩ := DataW.trod_int (t := 3) Try.underlying3 h2
      subst e0
      exact ⟨k, h1, bounds_i64 w0⟩)
    have hlen : ((List.range l).map f).length = l := by simp
    refine ⟨some a, (List.range l).map f, c, by rw [hlen]; exact hcs, ?_, (fun h => by cases h), by rw [hlen]; omega, by omega, ?_⟩
    · by_cases h0 : l = 0
      · subst h0; exact Or.inl rfl
      · right
        obtain ⟨b, off, spot⟩ := a
        have hc0 : W.cell? (⟨b, off, spot⟩ : Addr) = some (.int .i64 (f 0)) := by
          have := (World.cells?_some (hfn 0 (by omega)).1).2.2 0 (by omega)
          simpa [Addr.add] using this
        have hspot : spot = none := by simpa using World.cell?_spot hc0
        subst hspot
        refine ⟨b, off, rfl, World.block_lt_of_cell? W _ hc0, ?_⟩
        intro i p hp
        have hi : i < l := by
          have := (List.getElem?_eq_some_iff.1 hp).1
          simpa using this
        have hpe : p = f i := by
          simp [hi] at hp
          exact hp.symm
        subst hpe
        have e0 := (World.cells?_some (hfn i hi).1).2.2 0 (by omega)
        rw [Addr.add_lit, Addr.add_lit, Nat.mul_one] at e0
        exact e0
    · intro p hp
      simp only [List.mem_map, List.mem_range] at hp
      obtain ⟨i, hi, rfl⟩ := hp
      exact (hfn i hi).2

set_option maxRecDepth 100000 in
theorem open_ints {v : Value} {d : DataW H} {ps : List MemPlace} (hv : Value.okWide Try.prog W .any base 31 v) (h : DataW.Trod enc Try.prog W 0 (fun _ => true) true 31 v d ps) :
    ∃ (a : Option Addr) (L : List Int) (cap : Nat), v = .slice a L.length cap ∧ SlI W a L ∧ (a = none → cap = 0) ∧ L.length ≤ cap ∧ cap ≤ maxLen ∧ ∀ x ∈ L, i64B x := by
  obtain ⟨a0, len, cap, rfl⟩ := okWide_slice Try.underlying31 hv
  obtain ⟨fuel, hf⟩ := h
  obtain ⟨a, L, c, hcs, r⟩ := trod_ints hf
  simp [Value.cells] at hcs
  obtain ⟨rfl, rfl, rfl⟩ := hcs
  exact ⟨_, _, _, rfl, r⟩

set_option maxRecDepth 100000 in
/-- Five cells that read as a step are one. -/
theorem trod_step {fuel : Nat} {cs : List Value} {x : DataW H × List MemPlace} (h : DataW.trod enc Try.prog W 0 (fun _ => true) true fuel 33 cs = some x) :
    ∃ s : St, cs = s.cells ∧ s.ok W := by
  obtain ⟨y0, y1, y2, y3, y4, n, hl, h0, h1, h2, h3, h4⟩ := trod_struct5 Try.underlying33 h
  rw [Try.cellsStep] at hl
  match cs, hl with
  | [a, b, c, d, e], _ =>
    obtain ⟨k, e0, _, w0⟩ := DataW.trod_int (t := 3) Try.underlying3 h0
    obtain ⟨m, e1, _, w1⟩ := DataW.trod_int (t := 3) Try.underlying3 h1
    obtain ⟨n, e2, _, w2⟩ := DataW.trod_int (t := 3) Try.underlying3 h2
    obtain ⟨q, e3, _, w3⟩ := DataW.trod_int (t := 5) Try.underlying5 h3
    obtain ⟨ka, K, kc, e4, r1, r2, r3, r4, r5⟩ := trod_ints h4
    simp [Try.cellsInt, Try.cells5, Try.cellsInts] at e0 e1 e2 e3 e4
    have hq := bounds_u8 w3
    have hqe : q = ((UInt8.ofNat q.toNat).toNat : Int) := by
      simp [UInt8.toNat_ofNat']
      omega
    rw [hqe] at e3
    subst e0 e1 e2 e3 e4
    exact ⟨⟨k, m, n, UInt8.ofNat q.toNat, ka, K, kc⟩, rfl, ⟨bounds_i64 w0, bounds_i64 w1, bounds_i64 w2, r1, r2, r3, r4, r5⟩⟩

set_option maxRecDepth 100000 in
theorem open_steps {v : Value} {d : DataW H} {ps : List MemPlace} (hv : Value.okWide Try.prog W .any base 22 v) (h : DataW.Trod enc Try.prog W 0 (fun _ => true) true 22 v d ps) :
    ∃ (a : Option Addr) (L : List St) (cap : Nat), v = .slice a L.length cap ∧ SlS W a L ∧ (∀ p ∈ L, p.ok W) ∧ L.length ≤ maxLen := by
  obtain ⟨a0, len, cap, rfl⟩ := okWide_slice Try.underlying22 hv
  obtain ⟨fuel, hf⟩ := h
  rcases open_slice Try.underlying22 hf with ⟨hcs, _⟩ | ⟨a, l, c, m, n, D, Pl, hcs, _, hl, hm, hmm, _, hx⟩
  · simp [Value.cells] at hcs
    obtain ⟨rfl, rfl, rfl⟩ := hcs
    exact ⟨none, [], 0, rfl, Or.inl rfl, by simp, Nat.zero_le _⟩
  · simp [Value.cells] at hcs
    obtain ⟨rfl, rfl, rfl⟩ := hcs
    have hml : len ≤ m := by rw [hmm]; split <;> omega
    rw [Try.cellsStep] at hx
    have inst : Inhabited St := ⟨⟨0, 0, 0, 0, none, [], 0⟩⟩
    obtain ⟨f, hfn⟩ := choose_lt (α := St) (n := len) (p := fun i p => W.cells? 0 (a.add (i * 5)) 5 = some p.cells ∧ p.ok W) (fun i hi => by
      obtain ⟨cs', h1, h2⟩ := hx i (by omega)
      obtain ⟨p, rfl, hp⟩ := trod_step h2
      exact ⟨p, h1, hp⟩)
    have hlen : ((List.range len).map f).length = len := by simp
    refine ⟨some a, (List.range len).map f, cap, by rw [hlen], ?_, ?_, by rw [hlen]; omega⟩
    · by_cases h0 : len = 0
      · subst h0; exact Or.inl rfl
      · right
        obtain ⟨b, off, spot⟩ := a
        have hc0 : W.cell? (⟨b, off, spot⟩ : Addr) = some (.int .i64 (f 0).kind) := by
          have := (World.cells?_some (hfn 0 (by omega)).1).2.2 0 (by omega)
          simpa [St.cells, Addr.add] using this
        have hspot : spot = none := by simpa using World.cell?_spot hc0
        subst hspot
        refine ⟨b, off, rfl, World.block_lt_of_cell? W _ hc0, ?_⟩
        intro i p hp
        have hi : i < len := by
          have := (List.getElem?_eq_some_iff.1 hp).1
          simpa using this
        have hpe : p = f i := by
          simp [hi] at hp
          exact hp.symm
        subst hpe
        have hc := (World.cells?_some (hfn i hi).1).2.2
        have e0 := hc 0 (by omega)
        have e1 := hc 1 (by omega)
        have e2 := hc 2 (by omega)
        have e3 := hc 3 (by omega)
        have e4 := hc 4 (by omega)
        rw [Addr.add_lit, Addr.add_lit] at e0 e1 e2 e3 e4
        exact ⟨e0, e1, e2, e3, e4⟩
    · intro p hp
      simp only [List.mem_map, List.mem_range] at hp
      obtain ⟨i, hi, rfl⟩ := hp
      exact (hfn i hi).2
end

end Go.Proofs.Ythodnhcnaeajnaa

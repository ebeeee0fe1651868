/- The laws' arguments: lists of texts, of steps. -/
import Derived.Test.YtkjioabhdglkpaaGreatHAll
import Derived.Deep.Slices
import Derived.Deep.Strs
import Derived.Lib.SmallJoins
import Derived.ProofKit
import Derived.OpenShut
import Derived.ShutString
namespace Go.Proofs.YtkjioabhdglkpaaGreat
open Go.RowKit Go.ChangeShapes Go.WideShapes Go.ChangeAt Go.Deep
open Go.ChangeMaps (open_string shut_string)

theorem Tryz.cellsInt : Tryz.prog.cellsOf 3 = 1 := by kernel_rfl
theorem Tryz.cellsStr : Tryz.prog.cellsOf 9 = 1 := by kernel_rfl

def i64B (x : Int) : Prop := -9223372036854775808 ≤ x ∧ x ≤ 9223372036854775807

/-- A list in memory, each element some cells; an empty one anywhere. -/
def SlG {α : Type} (W : World) (a : Option Addr) (s : Nat) (cells : α → List Value) (L : List α) : Prop :=
  L = [] ∨ ∃ b off, a = some ⟨b, off, none⟩ ∧ b < W.heap.size ∧ ∀ i p, L[i]? = some p → ∀ j u, (cells p)[j]? = some u → W.cell? ⟨b, off + i * s + j, none⟩ = some u

theorem SlG.kept {α : Type} {W W' : World} {a : Option Addr} {s : Nat} {cells : α → List Value} {L : List α} (h : SlG W a s cells L) (hb : Below W.heap.size W W') : SlG W' a s cells L := by
  rcases h with h | ⟨b, off, e, hlt, hr⟩
  · exact Or.inl h
  · exact Or.inr ⟨b, off, e, by have := hb.size; omega, fun i p hp j u hu => (hb.cell (p := ⟨b, _, none⟩) hlt).trans (hr i p hp j u hu)⟩

section
variable {H : Type} {enc : TypeId × Value → H} {W : World} {base : Nat}

theorem trod_list {α : Type} (dflt : α) (t e s : Nat) (ht : Tryz.prog.underlying t = some (.slice e)) (hs : Tryz.prog.cellsOf e = s) (hs0 : 0 < s) (cells : α → List Value) (ok : α → Prop) (hcl : ∀ p, (cells p).length = s)
    (helem : ∀ (fuel : Nat) (cs : List Value) (x : DataW H × List MemPlace), DataW.trod enc Tryz.prog W 0 (fun _ => true) true fuel e cs = some x → ∃ p, cs = cells p ∧ ok p)
    {fuel : Nat} {cs : List Value} {x : DataW H × List MemPlace} (h : DataW.trod enc Tryz.prog W 0 (fun _ => true) true fuel t cs = some x) :
    ∃ (a : Option Addr) (L : List α) (cap : Nat), cs = [.slice a L.length cap] ∧ SlG W a s cells L ∧ (a = none → cap = 0) ∧ L.length ≤ cap ∧ cap ≤ maxLen ∧ ∀ p ∈ L, ok p := by
  rcases open_slice ht h with ⟨hcs, _⟩ | ⟨a, l, c, m, n, D, Pl, hcs, _, hl, hm, hmm, _, hx⟩
  · exact ⟨none, [], 0, hcs, Or.inl rfl, fun _ => rfl, Nat.le_refl _, Nat.zero_le _, by simp⟩
  · have hml : l ≤ m := by rw [hmm]; split <;> omega
    rw [hs] at hx
    have inst : Inhabited α := ⟨dflt⟩
    obtain ⟨f, hfn⟩ := choose_lt (α := α) (n := l) (p := fun i p => W.cells? 0 (a.add (i * s)) s = some (cells p) ∧ ok p) (fun i hi => by
      obtain ⟨cs', h1, h2⟩ := hx i (by omega)
      obtain ⟨p, rfl, hp⟩ := helem _ _ _ h2
      exact ⟨p, h1, hp⟩)
    have hlen : ((List.range l).map f).length = l := by simp
    refine ⟨some a, (List.range l).map f, c, by rw [hlen]; exact hcs, ?_, (fun h => by cases h), by rw [hlen]; omega, by omega, ?_⟩
    · by_cases h0 : l = 0
      · subst h0; exact Or.inl rfl
      · right
        obtain ⟨b, off, spot⟩ := a
        have hc0 : ∃ u, W.cell? (⟨b, off, spot⟩ : Addr) = some u := by
          have := (World.cells?_some (hfn 0 (by omega)).1).2.2 0 hs0
          rw [Nat.zero_mul] at this
          have h2 : ∃ u, (cells (f 0))[0]? = some u := ⟨_, List.getElem?_eq_getElem (by rw [hcl]; exact hs0)⟩
          obtain ⟨u, hu⟩ := h2
          rw [hu] at this
          exact ⟨u, by simpa [Addr.add] using this⟩
        obtain ⟨u0, hu0⟩ := hc0
        have hspot : spot = none := by simpa using World.cell?_spot hu0
        subst hspot
        refine ⟨b, off, rfl, World.block_lt_of_cell? W _ hu0, ?_⟩
        intro i p hp j u hu
        have hi : i < l := by
          have := (List.getElem?_eq_some_iff.1 hp).1
          simpa using this
        have hpe : p = f i := by
          simp [hi] at hp
          exact hp.symm
        subst hpe
        have hj : j < s := by rw [← hcl (f i)]; exact (List.getElem?_eq_some_iff.1 hu).1
        have e0 := (World.cells?_some (hfn i hi).1).2.2 j hj
        rw [Addr.add_lit, Addr.add_lit, hu] at e0
        exact e0
    · intro p hp
      simp only [List.mem_map, List.mem_range] at hp
      obtain ⟨i, hi, rfl⟩ := hp
      exact (hfn i hi).2


theorem trod_str {fuel : Nat} {cs : List Value} {x : DataW H × List MemPlace} (h : DataW.trod enc Tryz.prog W 0 (fun _ => true) true fuel 9 cs = some x) : ∃ s : ByteArray, cs = [.string s] ∧ s.size ≤ maxLen := by
  obtain ⟨s, e, _, hs⟩ := DataW.trod_string Tryz.underlying9 h
  exact ⟨s, e, hs⟩


end
end Go.Proofs.YtkjioabhdglkpaaGreat

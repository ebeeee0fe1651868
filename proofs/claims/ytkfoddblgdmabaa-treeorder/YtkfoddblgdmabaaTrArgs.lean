/- Layer 10: the laws' arguments: lists of texts, of numbers, of steps; fair. -/
import Derived.Test.YtkfoddblgdmabaaTrRefAll
import Derived.Deep.Slices
import Derived.Deep.Strs
import Derived.Lib.SmallJoins
import Derived.ProofKit
import Derived.OpenShut
import Derived.ShutString
namespace Go.Proofs.Ytkfoddblgdmabaa.tr
open Go.RowKit Go.ChangeShapes Go.WideShapes Go.ChangeAt Go.Deep
open Go.ChangeMaps (open_string shut_string)

theorem cellsInt : Try.prog.cellsOf 3 = 1 := by kernel_rfl
theorem cellsStr : Try.prog.cellsOf 9 = 1 := by kernel_rfl
theorem cellsLong : Try.prog.cellsOf 2 = 1 := by kernel_rfl
theorem cellsStep : Try.prog.cellsOf 34 = 3 := by kernel_rfl

def i64B (x : Int) : Prop := -9223372036854775808 ≤ x ∧ x ≤ 9223372036854775807

/-- A list in memory, each element some cells; an empty one anywhere. -/
def SlG {α : Type} (W : World) (a : Option Addr) (s : Nat) (cells : α → List Value) (L : List α) : Prop :=
  L = [] ∨ ∃ b off, a = some ⟨b, off, none⟩ ∧ b < W.heap.size ∧ ∀ i p, L[i]? = some p → ∀ j u, (cells p)[j]? = some u → W.cell? ⟨b, off + i * s + j, none⟩ = some u

theorem SlG.kept {α : Type} {W W' : World} {a : Option Addr} {s : Nat} {cells : α → List Value} {L : List α} (h : SlG W a s cells L) (hb : Below W.heap.size W W') : SlG W' a s cells L := by
  rcases h with h | ⟨b, off, e, hlt, hr⟩
  · exact Or.inl h
  · exact Or.inr ⟨b, off, e, by have := hb.size; omega, fun i p hp j u hu => (hb.cell (p := ⟨b, _, none⟩) hlt).trans (hr i p hp j u hu)⟩

section
variable {H : Type} {enc : TypeId × Value → H} {W : World} {base : Nat}

theorem trod_list {α : Type} (dflt : α) (t e s : Nat) (ht : Try.prog.underlying t = some (.slice e)) (hs : Try.prog.cellsOf e = s) (hs0 : 0 < s) (cells : α → List Value) (ok : α → Prop) (hcl : ∀ p, (cells p).length = s)
    (helem : ∀ (fuel : Nat) (cs : List Value) (x : DataW H × List MemPlace), DataW.trod enc Try.prog W 0 (fun _ => true) true fuel e cs = some x → ∃ p, cs = cells p ∧ ok p)
    {fuel : Nat} {cs : List Value} {x : DataW H × List MemPlace} (h : DataW.trod enc Try.prog W 0 (fun _ => true) true fuel t cs = some x) :
    ∃ (a : Option Addr) (L : List α) (cap : Nat), cs = [.slice a L.length cap] ∧ SlG W a s cells L ∧ (a = none → cap = 0) ∧ L.length ≤ cap ∧ cap ≤ maxLen ∧ ∀ p ∈ L, ok p := by
  rcases open_slice ht h with ⟨hcs, _⟩ | ⟨a, l, c, m, n, D, Pl, hcs, _, hl, hm, hmm, _, hx⟩
  · exact ⟨none, [], 0, hcs, Or.inl rfl, fun _ => rfl, Nat.le_refl _, Nat.zero_le _, by simp⟩
  · have hml : l ≤ m := by rw [hmm]; split <;> omega
    rw [hs] at hx
    have inst : Inhabited α := ⟨dflt⟩
    obtain ⟨f, hfn⟩ := choose_lt (α := α) (n := l) (p := fun i p => W.cells? 0 (a.add (i * s)) s = some (cells p) ∧ ok p) (fun i hi => by
      obtain ⟨cs', h1, h2⟩ := hx i (by omega)
      obtain ⟨p, rfl, hp⟩ := helem _ _ _ h2
      exact ⟨p, h1, hp⟩)
    have hlen : ((List.range l).map f).length = l := by simp
    refine ⟨some a, (List.range l).map f, c, by rw [hlen]; exact hcs, ?_, (fun h => by cases h), by rw [hlen]; omega, by omega, ?_⟩
    · by_cases h0 : l = 0
      · subst h0; exact Or.inl rfl
      · right
        obtain ⟨b, off, spot⟩ := a
        have hc0 : ∃ u, W.cell? (⟨b, off, spot⟩ : Addr) = some u := by
          have := (World.cells?_some (hfn 0 (by omega)).1).2.2 0 hs0
          rw [Nat.zero_mul] at this
          have h2 : ∃ u, (cells (f 0))[0]? = some u := ⟨_, List.getElem?_eq_getElem (by rw [hcl]; exact hs0)⟩
          obtain ⟨u, hu⟩ := h2
          rw [hu] at this
          exact ⟨u, by simpa [Addr.add] using this⟩
        obtain ⟨u0, hu0⟩ := hc0
        have hspot : spot = none := by simpa using World.cell?_spot hu0
        subst hspot
        refine ⟨b, off, rfl, World.block_lt_of_cell? W _ hu0, ?_⟩
        intro i p hp j u hu
        have hi : i < l := by
          have := (List.getElem?_eq_some_iff.1 hp).1
          simpa using this
        have hpe : p = f i := by
          simp [hi] at hp
          exact hp.symm
        subst hpe
        have hj : j < s := by rw [← hcl (f i)]; exact (List.getElem?_eq_some_iff.1 hu).1
        have e0 := (World.cells?_some (hfn i hi).1).2.2 j hj
        rw [Addr.add_lit, Addr.add_lit, hu] at e0
        exact e0
    · intro p hp
      simp only [List.mem_map, List.mem_range] at hp
      obtain ⟨i, hi, rfl⟩ := hp
      exact (hfn i hi).2

theorem trod_str {fuel : Nat} {cs : List Value} {x : DataW H × List MemPlace} (h : DataW.trod enc Try.prog W 0 (fun _ => true) true fuel 9 cs = some x) : ∃ s : ByteArray, cs = [.string s] ∧ s.size ≤ maxLen := by
  obtain ⟨s, e, _, hs⟩ := DataW.trod_string Try.underlying9 h
  exact ⟨s, e, hs⟩

/-- A step. -/
structure Sp where
  kind : Int
  key : ByteArray
  n : Int
structure Sp.ok (s : Sp) : Prop where
  kB : i64B s.kind
  sB : s.key.size ≤ maxLen
  nB : i64B s.n
def Sp.cells (s : Sp) : List Value := [.int .i64 s.kind, .string s.key, .int .i64 s.n]
abbrev SlS (W : World) (a : Option Addr) (L : List Sp) : Prop := SlG W a 3 Sp.cells L

set_option maxRecDepth 100000 in
theorem trod_step {fuel : Nat} {cs : List Value} {x : DataW H × List MemPlace} (h : DataW.trod enc Try.prog W 0 (fun _ => true) true fuel 34 cs = some x) : ∃ s : Sp, cs = s.cells ∧ s.ok := by
  obtain ⟨y0, y1, y2, n, _, hl, h0, h1, h2⟩ := trod_struct3 Try.underlying34 h
  rw [cellsStep] at hl
  match cs, hl with
  | [a, b, c], _ =>
    obtain ⟨k, e0, _, w0⟩ := DataW.trod_int (t := 3) Try.underlying3 h0
    obtain ⟨k1, e1, w1⟩ := trod_str h1
    obtain ⟨k2, e2, _, w2⟩ := DataW.trod_int (t := 2) Try.underlying2 h2
    simp [cellsInt, cellsStr, cellsLong] at e0 e1 e2
    subst e0 e1 e2
    exact ⟨⟨k, k1, k2⟩, rfl, bounds_i64 w0, w1, bounds_i64 w2⟩

set_option maxRecDepth 100000 in
theorem open_steps {v : Value} {d : DataW H} {ps : List MemPlace} (hv : Value.okWide Try.prog W .any base 22 v) (h : DataW.Trod enc Try.prog W 0 (fun _ => true) true 22 v d ps) :
    ∃ (a : Option Addr) (L : List Sp) (cap : Nat), v = .slice a L.length cap ∧ SlS W a L ∧ L.length ≤ cap ∧ cap ≤ maxLen ∧ ∀ s ∈ L, s.ok := by
  obtain ⟨a0, len, cap, rfl⟩ := okWide_slice Try.underlying22 hv
  obtain ⟨fuel, hf⟩ := h
  obtain ⟨a, L, c, hcs, r1, _, r3, r4, r5⟩ := trod_list (α := Sp) ⟨0, ⟨#[]⟩, 0⟩ 22 34 3 Try.underlying22 cellsStep (by decide) Sp.cells Sp.ok (fun _ => rfl) (fun fuel cs x h => trod_step h) hf
  simp [Value.cells] at hcs
  obtain ⟨rfl, rfl, rfl⟩ := hcs
  exact ⟨_, _, _, rfl, r1, r3, r4, r5⟩
end

def fairL (L : List Sp) : Bool := decide (L.length ≤ 400) && L.all (fun s => decide (s.key.size ≤ 5000))

set_option maxHeartbeats 800000 in
set_option maxRecDepth 100000 in
theorem fair_any (a0 : Option Addr) (L : List Sp) (c : Nat) (w : World) (hL : SlS w a0 L) (hlen : L.length ≤ maxLen) :
    Calls Try.prog 11 #[.slice a0 L.length c] w fun e w' => e = .returned (.bool (fairL L)) ∧ w' = w := by
  have hlen2 : L.length ≤ 9223372036854775807 := by unfold maxLen at hlen; omega
  go_enter Try.func11, Try.ntmps11
  go_wp2_with fail
  go_loopw [3] (fun si wr => ∃ i : Nat, i ≤ L.length ∧ si = .int .i64 (i : Int) ∧ Hid (wr = w) ∧ Hid (∀ s ∈ L.take i, s.key.size ≤ 5000)) (fun si _ => L.length - (Go.RowKit.intOf si).toNat)
  case atStart => exact ⟨0, Nat.zero_le _, rfl, rfl, fun s hs => by simp at hs⟩
  case round =>
    obtain ⟨i, hi, rfl, hwr, hall⟩ := hrel
    rw [hwr.out]
    clear hwr
    by_cases hlt : i < L.length
    · have hlt2 : (i : Int) < (L.length : Int) := by omega
      have hx : L[i]? = some L[i] := by simp [hlt]
      generalize L[i] = s at hx
      rcases hL with hL | ⟨b, off, rfl, hlb, hcell⟩
      · rw [hL] at hlt; simp at hlt
      have r2 : w.cell? ⟨b, off + i * 3 + 1, none⟩ = some (.string s.key) := hcell i s hx 1 _ rfl
      clear hcell
      by_cases hr : s.key.size ≤ 5000
      · have hr2 : decide ((5000 : Int) < (s.key.size : Int)) = false := by simp; omega
        have HA : Hid (∀ s ∈ L.take (i + 1), s.key.size ≤ 5000) := fun t ht => by
          rw [List.take_add_one, hx] at ht
          rcases List.mem_append.1 ht with q | q
          · exact hall.out t q
          · simp at q; rw [q]; exact hr
        clear hr hx
        go_wp2_with fail
        go_roundw
        case rel => exact ⟨i + 1, by omega, by go_num, True.intro, HA⟩
        case measure => simp [Go.RowKit.intOf]; omega
      · have hr2 : decide ((5000 : Int) < (s.key.size : Int)) = true := by simp; omega
        have hf : fairL L = false := by
          unfold fairL
          rw [Bool.and_eq_false_iff]
          refine Or.inr ?_
          rw [List.all_eq_false]
          exact ⟨s, List.mem_of_getElem? hx, by simpa using hr⟩
        have HB := (show Hid _ from hf)
        clear hr hx hf
        go_wp2_with fail
        go_ret
        exact ⟨by rw [HB.out]; rfl, rfl⟩
    · obtain rfl : i = L.length := by omega
      rw [List.take_length] at hall
      have hf : fairL L = decide ((L.length : Int) ≤ 400) := by
        unfold fairL
        have : L.all (fun s => decide (s.key.size ≤ 5000)) = true := by
          rw [List.all_eq_true]
          exact fun s hs => by simpa using hall.out s hs
        rw [this, Bool.and_true]
        simp
        omega
      have HB := (show Hid _ from hf)
      clear hf
      go_wp2_with fail
      go_ret
      exact ⟨by rw [HB.out]; rfl, rfl⟩
theorem fair_of {L : List Sp} (h : fairL L = true) : L.length ≤ 400 ∧ ∀ s ∈ L, s.key.size ≤ 5000 := by
  unfold fairL at h
  rw [Bool.and_eq_true, List.all_eq_true] at h
  exact ⟨by simpa using h.1, fun s hs => by simpa using h.2 s hs⟩

end Go.Proofs.Ytkfoddblgdmabaa.tr

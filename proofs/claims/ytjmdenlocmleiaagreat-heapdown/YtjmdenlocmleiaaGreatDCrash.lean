/- Crash. -/
import Derived.Test.YtjmdenlocmleiaaGreatDFlush
namespace Go.Proofs.YtjmdenlocmleiaaGreat
open Go.RowKit

/-- A list of numbers in memory. -/
def SlI (w : World) (a : Option Addr) (L : List Int) : Prop := L = [] ∨ ∃ b off, a = some ⟨b, off, none⟩ ∧ b < w.heap.size ∧ ∀ i x, L[i]? = some x → w.cell? ⟨b, off + i, none⟩ = some (.int .i64 x)

theorem SlI.kept {w w' : World} {a : Option Addr} {L : List Int} (h : SlI w a L) (hb : Below w.heap.size w w') : SlI w' a L := by
  rcases h with h | ⟨b, off, e, hlt, hr⟩
  · exact Or.inl h
  · exact Or.inr ⟨b, off, e, by have := hb.size; omega, fun i x hx => (hb.cell (p := ⟨b, _, none⟩) hlt).trans (hr i x hx)⟩

/-- The beginning of one text, the end of another one. -/
def tear (n : Nat) (s old : ByteArray) : ByteArray := s.extract 0 n ++ old.extract n old.size

theorem tear_size (n : Nat) (s old : ByteArray) (h1 : s.size = 512) (h2 : old.size = 512) (hn : n ≤ 512) : (tear n s old).size = 512 := by
  unfold tear
  rw [ByteArray.size_append, ByteArray.size_extract, ByteArray.size_extract]
  omega

/-- What is flushed behind a crash, as far as the first k writes. -/
def crN (f : Nat → ByteArray) (l : List (Nat × ByteArray)) (keep : List Int) : Nat → Nat → ByteArray
  | 0 => f
  | k + 1 => match l[k]?, keep[k]? with
    | some p, some x => upd (crN f l keep k) p.1 (tear (kept x) p.2 (crN f l keep k p.1))
    | _, _ => crN f l keep k

theorem crN_some (f : Nat → ByteArray) (l : List (Nat × ByteArray)) (keep : List Int) (k : Nat) (p : Nat × ByteArray) (x : Int) (h : l[k]? = some p) (hx : keep[k]? = some x) :
    crN f l keep (k + 1) = upd (crN f l keep k) p.1 (tear (kept x) p.2 (crN f l keep k p.1)) := by
  rw [crN, h, hx]

theorem crN_none (f : Nat → ByteArray) (l : List (Nat × ByteArray)) (keep : List Int) (k : Nat) (hx : keep[k]? = none) : crN f l keep (k + 1) = crN f l keep k := by
  rw [crN, hx]
  cases l[k]? <;> rfl

theorem upd_size {f : Nat → ByteArray} {i n : Nat} {s : ByteArray} (hf : ∀ j, j < n → (f j).size = 512) (hs : s.size = 512) : ∀ j, j < n → (upd f i s j).size = 512 := by
  intro j hj
  unfold upd
  split
  · exact hs
  · exact hf j hj

theorem crN_size {f : Nat → ByteArray} {l : List (Nat × ByteArray)} {keep : List Int} {n : Nat} (hf : ∀ j, j < n → (f j).size = 512) (hh : ∀ p ∈ l, p.1 < n ∧ p.2.size = 512) (k : Nat) : ∀ j, j < n → (crN f l keep k j).size = 512 := by
  induction k with
  | zero => exact hf
  | succ k ih =>
    cases hx : keep[k]? with
    | none => rw [crN_none _ _ _ _ hx]; exact ih
    | some x =>
      cases hp : l[k]? with
      | none => rw [crN, hp]; exact ih
      | some p =>
        rw [crN_some _ _ _ _ _ _ hp hx]
        have := hh p (List.mem_of_getElem? hp)
        exact upd_size ih (tear_size _ _ _ this.2 (ih _ this.1) (kept_le x))

/-- What is latest behind a crash, as far as the first k writes. -/
def seN (f safe : Nat → ByteArray) (l : List (Nat × ByteArray)) : Nat → Nat → ByteArray
  | 0 => f
  | k + 1 => match l[k]? with
    | none => seN f safe l k
    | some p => upd (seN f safe l k) p.1 (safe p.1)

theorem seN_succ (f safe : Nat → ByteArray) (l : List (Nat × ByteArray)) (k : Nat) (p : Nat × ByteArray) (h : l[k]? = some p) : seN f safe l (k + 1) = upd (seN f safe l k) p.1 (safe p.1) := by
  rw [seN, h]

/-- A crash. -/
def DS.crashed (D : DS) (keep : List Int) : DS :=
  { D with safe := crN D.safe D.held keep D.held.length, seen := seN D.seen (crN D.safe D.held keep D.held.length) D.held D.held.length, held := [], left := -1, next := 0 }

end Go.Proofs.YtjmdenlocmleiaaGreat

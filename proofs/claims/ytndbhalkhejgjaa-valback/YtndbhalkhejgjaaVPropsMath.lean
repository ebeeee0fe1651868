/- Which lists of properties are good: plain mathematics. -/
import Derived.Test.YtndbhalkhejgjaaVSet
import Derived.Test.YtndbhalkhejgjaaVOpen
namespace Go.Proofs.Ytndbhalkhejgjaa
open Go.RowKit

/-- Does a name stand behind another one (or none)? -/
def behind : Option ByteArray → ByteArray → Bool
  | none, _ => true
  | some q, p => ltS q p

/-- Are properties good, behind one of that name (or none)? -/
def propsFrom : Option ByteArray → List Pr → Bool
  | _, [] => true
  | prev, p :: l => nameB p.name && (goodB p.v && (behind prev p.name && propsFrom (some p.name) l))

/-- Are properties good? -/
def propsB (L : List Pr) : Bool := decide (L.length ≤ 8) && propsFrom none L

/-- The name ahead of a place. -/
def prevAt (L : List Pr) : Nat → Option ByteArray
  | 0 => none
  | k + 1 => (L[k]?).map (·.name)

theorem propsFrom_name (prev : Option ByteArray) (p : Pr) (l : List Pr) (h : nameB p.name = false) : propsFrom prev (p :: l) = false := by
  rw [propsFrom, h]
  rfl

theorem propsFrom_good (prev : Option ByteArray) (p : Pr) (l : List Pr) (h : goodB p.v = false) : propsFrom prev (p :: l) = false := by
  rw [propsFrom, h]
  simp

theorem propsFrom_lt (q : ByteArray) (p : Pr) (l : List Pr) (h : ltS q p.name = false) : propsFrom (some q) (p :: l) = false := by
  rw [propsFrom]
  simp [behind, h]

theorem propsFrom_first (p : Pr) (l : List Pr) (h1 : nameB p.name = true) (h2 : goodB p.v = true) : propsFrom none (p :: l) = propsFrom (some p.name) l := by
  rw [propsFrom, h1, h2]
  rfl

theorem propsFrom_next (q : ByteArray) (p : Pr) (l : List Pr) (h1 : nameB p.name = true) (h2 : goodB p.v = true) (h3 : ltS q p.name = true) : propsFrom (some q) (p :: l) = propsFrom (some p.name) l := by
  rw [propsFrom, h1, h2]
  simp [behind, h3]

theorem propsB_few {L : List Pr} (h : L.length ≤ 8) : propsB L = propsFrom none L := by
  unfold propsB
  simp [h]

theorem propsB_many {L : List Pr} (h : ¬ L.length ≤ 8) : propsB L = false := by
  unfold propsB
  simp [h]

theorem prevAt_succ (L : List Pr) (k : Nat) (h : k < L.length) : prevAt L (k + 1) = some L[k].name := by
  simp [prevAt, h]

end Go.Proofs.Ytndbhalkhejgjaa

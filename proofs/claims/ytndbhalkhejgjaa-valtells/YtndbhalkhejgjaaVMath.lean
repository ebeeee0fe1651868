/- Words of layer 2: values, names, properties; plain mathematics and how they lie in cells. -/
import Derived.Test.YtndbhalkhejgjaaBackMath
namespace Go.Proofs.Ytndbhalkhejgjaa
open Go.RowKit

/-- A value: its kind, its number, its text. -/
structure V where
  k : Int
  n : Int
  s : ByteArray

/-- A property. -/
structure Pr where
  name : ByteArray
  v : V

def V.cells (v : V) : List Value := [.int .i64 v.k, .int .i64 v.n, .string v.s]
def V.val (v : V) : Value := .agg #[.int .i64 v.k, .int .i64 v.n, .string v.s]
def Pr.cells (p : Pr) : List Value := [.string p.name, .int .i64 p.v.k, .int .i64 p.v.n, .string p.v.s]
def Pr.val (p : Pr) : Value := .agg #[.string p.name, .int .i64 p.v.k, .int .i64 p.v.n, .string p.v.s]

/-- Its numbers are numbers of their type, its text is a text. -/
structure V.ok (v : V) : Prop where
  k0 : -9223372036854775808 ≤ v.k
  k1 : v.k ≤ 9223372036854775807
  n0 : -9223372036854775808 ≤ v.n
  n1 : v.n ≤ 9223372036854775807

/-- The byte at a place (0 behind the end). -/
def bt (s : ByteArray) (j : Nat) : Nat := if h : j < s.size then s[j].toNat else 0

theorem bt_eq (s : ByteArray) (j : Nat) (h : j < s.size) : s[j].toNat = bt s j := by
  unfold bt
  rw [dif_pos h]

theorem bt_lt (s : ByteArray) (j : Nat) : bt s j < 256 := by
  unfold bt
  split
  · exact UInt8.toNat_lt _
  · omega

/-- May a byte stand at that place of a name? -/
def letB (c : Nat) : Bool := decide (97 ≤ c) && decide (c ≤ 122)
def digB (c : Nat) : Bool := decide (48 ≤ c) && decide (c ≤ 57)
def okb (j c : Nat) : Bool := letB c || (decide (0 < j) && (digB c || decide (c = 95)))

/-- The first k bytes of a name may stand there. -/
def okTo (s : ByteArray) : Nat → Bool
  | 0 => true
  | k + 1 => okTo s k && okb k (bt s k)

/-- Is a text a name? -/
def nameB (s : ByteArray) : Bool := decide (1 ≤ s.size) && decide (s.size ≤ 16) && okTo s s.size

theorem okTo_no (s : ByteArray) (k n : Nat) (h : k < n) (hb : okb k (bt s k) = false) : okTo s n = false := by
  induction n with
  | zero => omega
  | succ n ih =>
    unfold okTo
    by_cases e : k = n
    · subst e; rw [hb]; simp
    · rw [ih (by omega)]; simp

theorem nameB_no (s : ByteArray) (k : Nat) (h : k < s.size) (hb : okb k (bt s k) = false) : nameB s = false := by
  unfold nameB
  rw [okTo_no s k s.size h hb]
  simp

theorem nameB_yes (s : ByteArray) (h1 : 1 ≤ s.size) (h2 : s.size ≤ 16) (h : okTo s s.size = true) : nameB s = true := by
  unfold nameB
  simp [h1, h2, h]

theorem nameB_size (s : ByteArray) (h : s.size = 0 ∨ 16 < s.size) : nameB s = false := by
  unfold nameB
  rcases h with h | h
  · simp [h]
  · simp [show ¬ s.size ≤ 16 by omega]

theorem nameB_le (s : ByteArray) (h : nameB s = true) : 1 ≤ s.size ∧ s.size ≤ 16 := by
  unfold nameB at h
  simp at h
  exact h.1

/-- Is a value good? -/
def goodB (v : V) : Bool :=
  (decide (v.k = 1) && ((decide (v.n = 0) || decide (v.n = 1)) && decide (v.s.size = 0))) ||
  (decide (v.k = 2) && decide (v.s.size = 0)) || (decide (v.k = 3) && (decide (v.n = 0) && decide (v.s.size ≤ 1024)))

/-- Is it none? -/
def blankB (v : V) : Bool := decide (v.k = 0) && (decide (v.n = 0) && decide (v.s.size = 0))

/-- The bytes of a value. -/
def encV (v : V) : List UInt8 :=
  if goodB v || blankB v then
    UInt8.ofNat v.k.toNat :: (if v.k = 1 then [UInt8.ofNat v.n.toNat] else if v.k = 2 then enc (zig v.n) else if v.k = 3 then putT v.s.data.toList else [])
  else []

theorem size_zero (s : ByteArray) (h : s.size = 0) : s = ⟨#[]⟩ := ByteArray.ext (Array.eq_empty_of_size_eq_zero h)

theorem list_empty (s : ByteArray) (h : s.size = 0) : (s.toList == []) = true := by
  rw [size_zero s h, ByteArray.toList_eq]
  rfl

theorem list_some (s : ByteArray) (h : s.size ≠ 0) : (s.toList == []) = false := by
  rw [beq_eq_false_iff_ne, ByteArray.toList_eq]
  intro e
  apply h
  have := congrArg List.length e
  simpa using this

theorem list_eq (a b : ByteArray) : (a.toList == b.toList) = decide (a = b) := by
  rw [Bool.eq_iff_iff, beq_iff_eq, ByteArray.toList_eq, ByteArray.toList_eq, decide_eq_true_eq]
  constructor
  · intro h
    exact ByteArray.ext (by rw [← Array.toList_inj]; exact h)
  · intro h
    rw [h]

end Go.Proofs.Ytndbhalkhejgjaa

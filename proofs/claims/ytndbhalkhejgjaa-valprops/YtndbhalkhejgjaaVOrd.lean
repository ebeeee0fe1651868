/- The order of texts and of values: plain mathematics. -/
import Derived.Test.YtndbhalkhejgjaaVMath
namespace Go.Proofs.Ytndbhalkhejgjaa
open Go.RowKit

theorem bl_irrefl (x : List UInt8) : Op.bytesLess x x = false := by
  induction x with
  | nil => rfl
  | cons a x ih => simp [Op.bytesLess, ih, UInt8.lt_irrefl]

theorem bl_asymm (x y : List UInt8) (h : Op.bytesLess x y = true) : Op.bytesLess y x = false := by
  induction x generalizing y with
  | nil => cases y <;> simp [Op.bytesLess] at *
  | cons a x ih =>
    cases y with
    | nil => simp [Op.bytesLess] at h
    | cons b y =>
      simp only [Op.bytesLess, Bool.or_eq_true, decide_eq_true_eq, Bool.and_eq_true, beq_iff_eq, Bool.or_eq_false_iff, decide_eq_false_iff_not, Bool.and_eq_false_imp] at *
      rcases h with h | ⟨rfl, h⟩
      · exact ⟨UInt8.lt_asymm h, fun e => absurd h (by rw [e]; exact UInt8.lt_irrefl _)⟩
      · exact ⟨UInt8.lt_irrefl _, fun _ => ih y h⟩

theorem bl_trans (x y z : List UInt8) (h : Op.bytesLess x y = true) (g : Op.bytesLess y z = true) : Op.bytesLess x z = true := by
  induction x generalizing y z with
  | nil => cases y <;> cases z <;> simp [Op.bytesLess] at *
  | cons a x ih =>
    cases y with
    | nil => simp [Op.bytesLess] at h
    | cons b y =>
      cases z with
      | nil => simp [Op.bytesLess] at g
      | cons c z =>
        simp only [Op.bytesLess, Bool.or_eq_true, decide_eq_true_eq, Bool.and_eq_true, beq_iff_eq] at *
        rcases h with h | ⟨rfl, h⟩
        · rcases g with g | ⟨rfl, g⟩
          · exact Or.inl (UInt8.lt_trans h g)
          · exact Or.inl h
        · rcases g with g | ⟨rfl, g⟩
          · exact Or.inl g
          · exact Or.inr ⟨rfl, ih y z h g⟩

theorem bl_total (x y : List UInt8) (h : Op.bytesLess x y = false) (g : Op.bytesLess y x = false) : x = y := by
  induction x generalizing y with
  | nil => cases y <;> simp [Op.bytesLess] at *
  | cons a x ih =>
    cases y with
    | nil => simp [Op.bytesLess] at g
    | cons b y =>
      simp only [Op.bytesLess, Bool.or_eq_false_iff, decide_eq_false_iff_not, Bool.and_eq_false_imp, beq_iff_eq] at *
      have e : a = b := by
        have h1 := h.1
        have g1 := g.1
        rw [UInt8.not_lt] at h1 g1
        exact UInt8.le_antisymm g1 h1
      subst e
      rw [ih y (h.2 rfl) (g.2 rfl)]

/-- Is a text ahead of another one? -/
def ltS (a b : ByteArray) : Bool := Op.bytesLess a.toList b.toList

theorem toList_inj {a b : ByteArray} (h : a.toList = b.toList) : a = b := by
  rw [ByteArray.toList_eq, ByteArray.toList_eq] at h
  exact ByteArray.ext (by rw [← Array.toList_inj]; exact h)

theorem ltS_irrefl (a : ByteArray) : ltS a a = false := bl_irrefl _
theorem ltS_asymm {a b : ByteArray} (h : ltS a b = true) : ltS b a = false := bl_asymm _ _ h
theorem ltS_trans {a b c : ByteArray} (h : ltS a b = true) (g : ltS b c = true) : ltS a c = true := bl_trans _ _ _ h g
theorem ltS_total {a b : ByteArray} (h : ltS a b = false) (g : ltS b a = false) : a = b := toList_inj (bl_total _ _ h g)
theorem ltS_ne {a b : ByteArray} (h : ltS a b = true) : a ≠ b := by
  intro e
  rw [e, ltS_irrefl] at h
  cases h

/-- The order of two texts. -/
def cmpS (a b : ByteArray) : Int := if ltS a b then -1 else if ltS b a then 1 else 0

/-- The order of two numbers. -/
def cmpI (a b : Int) : Int := if a < b then -1 else if b < a then 1 else 0

/-- The order of two values. -/
def cmpV (a b : V) : Int := if cmpI a.k b.k ≠ 0 then cmpI a.k b.k else if cmpI a.n b.n ≠ 0 then cmpI a.n b.n else cmpS a.s b.s

/-- Are two values alike? -/
def eqV (a b : V) : Bool := decide (a.k = b.k) && (decide (a.n = b.n) && decide (a.s = b.s))

theorem V.ext {a b : V} (h1 : a.k = b.k) (h2 : a.n = b.n) (h3 : a.s = b.s) : a = b := by
  cases a
  cases b
  simp_all

theorem eqV_refl (a : V) : eqV a a = true := by simp [eqV]

theorem eqV_iff (a b : V) : eqV a b = true ↔ a = b := by
  unfold eqV
  simp only [Bool.and_eq_true, decide_eq_true_eq]
  exact ⟨fun ⟨h1, h2, h3⟩ => V.ext h1 h2 h3, fun h => by subst h; exact ⟨rfl, rfl, rfl⟩⟩

theorem cmpI_cases (a b : Int) : (a < b ∧ cmpI a b = -1) ∨ (a = b ∧ cmpI a b = 0) ∨ (b < a ∧ cmpI a b = 1) := by
  unfold cmpI
  rcases Int.lt_trichotomy a b with h | h | h
  · exact Or.inl ⟨h, if_pos h⟩
  · subst h; exact Or.inr (Or.inl ⟨rfl, by simp⟩)
  · exact Or.inr (Or.inr ⟨h, by rw [if_neg (by omega), if_pos h]⟩)

theorem cmpS_cases (a b : ByteArray) : (ltS a b = true ∧ cmpS a b = -1) ∨ (a = b ∧ cmpS a b = 0) ∨ (ltS b a = true ∧ cmpS a b = 1) := by
  unfold cmpS
  cases h : ltS a b with
  | true => exact Or.inl ⟨rfl, rfl⟩
  | false =>
    cases g : ltS b a with
    | true => exact Or.inr (Or.inr ⟨rfl, by simp⟩)
    | false => exact Or.inr (Or.inl ⟨ltS_total h g, by simp⟩)

/-- Which of two values is ahead, and what Compare tells of it. -/
theorem cmpV_cases (a b : V) : (cmpV a b = -1 ∧ (a.k < b.k ∨ a.k = b.k ∧ (a.n < b.n ∨ a.n = b.n ∧ ltS a.s b.s = true))) ∨ (cmpV a b = 0 ∧ a = b) ∨
    (cmpV a b = 1 ∧ (b.k < a.k ∨ a.k = b.k ∧ (b.n < a.n ∨ a.n = b.n ∧ ltS b.s a.s = true))) := by
  unfold cmpV
  rcases cmpI_cases a.k b.k with ⟨h, e⟩ | ⟨h, e⟩ | ⟨h, e⟩
  · rw [e]; exact Or.inl ⟨rfl, Or.inl h⟩
  · rw [e]
    simp only [ne_eq, not_true_eq_false, if_false]
    rcases cmpI_cases a.n b.n with ⟨h2, e2⟩ | ⟨h2, e2⟩ | ⟨h2, e2⟩
    · rw [e2]; exact Or.inl ⟨rfl, Or.inr ⟨h, Or.inl h2⟩⟩
    · rw [e2]
      simp only [not_true_eq_false, if_false]
      rcases cmpS_cases a.s b.s with ⟨h3, e3⟩ | ⟨h3, e3⟩ | ⟨h3, e3⟩
      · rw [e3]; exact Or.inl ⟨rfl, Or.inr ⟨h, Or.inr ⟨h2, h3⟩⟩⟩
      · rw [e3]; exact Or.inr (Or.inl ⟨rfl, V.ext h h2 h3⟩)
      · rw [e3]; exact Or.inr (Or.inr ⟨rfl, Or.inr ⟨h, Or.inr ⟨h2, h3⟩⟩⟩)
    · rw [e2]; exact Or.inr (Or.inr ⟨rfl, Or.inr ⟨h, Or.inl h2⟩⟩)
  · rw [e]; exact Or.inr (Or.inr ⟨rfl, Or.inl h⟩)

/-- A value stands ahead of another one. -/
def ahead (a b : V) : Prop := a.k < b.k ∨ a.k = b.k ∧ (a.n < b.n ∨ a.n = b.n ∧ ltS a.s b.s = true)

theorem ahead_trans {a b c : V} (h : ahead a b) (g : ahead b c) : ahead a c := by
  unfold ahead at *
  rcases h with h | ⟨h, h2 | ⟨h2, h3⟩⟩ <;> rcases g with g | ⟨g, g2 | ⟨g2, g3⟩⟩
  all_goals first | exact Or.inl (by omega) | exact Or.inr ⟨by omega, Or.inl (by omega)⟩ | exact Or.inr ⟨by omega, Or.inr ⟨by omega, ltS_trans h3 g3⟩⟩

theorem ahead_irrefl (a : V) : ¬ ahead a a := by
  unfold ahead
  rw [ltS_irrefl]
  simp

theorem cmpV_lt {a b : V} (h : ahead a b) : cmpV a b = -1 := by
  rcases cmpV_cases a b with ⟨e, _⟩ | ⟨_, e⟩ | ⟨_, e⟩
  · exact e
  · subst e; exact absurd h (ahead_irrefl a)
  · have : ahead b a := by
      unfold ahead
      rcases e with e | ⟨e1, e2 | ⟨e2, e3⟩⟩
      · exact Or.inl e
      · exact Or.inr ⟨e1.symm, Or.inl e2⟩
      · exact Or.inr ⟨e1.symm, Or.inr ⟨e2.symm, e3⟩⟩
    exact absurd (ahead_trans h this) (ahead_irrefl a)

theorem cmpV_refl (a : V) : cmpV a a = 0 := by
  rcases cmpV_cases a a with ⟨_, e⟩ | ⟨e, _⟩ | ⟨_, e⟩
  · exact absurd e (ahead_irrefl a)
  · exact e
  · simp [ltS_irrefl] at e

/-- Of two values one is ahead, or they are one. -/
theorem cmpV_tri (a b : V) : (ahead a b ∧ cmpV a b = -1 ∧ cmpV b a = 1) ∨ (a = b ∧ cmpV a b = 0 ∧ cmpV b a = 0) ∨ (ahead b a ∧ cmpV a b = 1 ∧ cmpV b a = -1) := by
  rcases cmpV_cases a b with ⟨e, h⟩ | ⟨e, h⟩ | ⟨e, h⟩
  · have h' : ahead a b := h
    rcases cmpV_cases b a with ⟨_, g⟩ | ⟨_, g⟩ | ⟨g, _⟩
    · exact absurd (ahead_trans h' g) (ahead_irrefl a)
    · subst g; exact absurd h' (ahead_irrefl _)
    · exact Or.inl ⟨h', e, g⟩
  · subst h; exact Or.inr (Or.inl ⟨rfl, e, e⟩)
  · have h' : ahead b a := by
      unfold ahead
      rcases h with h | ⟨h1, h2 | ⟨h2, h3⟩⟩
      · exact Or.inl h
      · exact Or.inr ⟨h1.symm, Or.inl h2⟩
      · exact Or.inr ⟨h1.symm, Or.inr ⟨h2.symm, h3⟩⟩
    exact Or.inr (Or.inr ⟨h', e, cmpV_lt h'⟩)

end Go.Proofs.Ytndbhalkhejgjaa

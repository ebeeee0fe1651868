/- Good properties stay good where one is set: plain mathematics. -/
import Derived.Test.YtndbhalkhejgjabVLawsMath
namespace Go.Proofs.Ytndbhalkhejgjab
open Go.RowKit

theorem get_gone (set : Pr) (l : List Pr) : getL (setGo set l true) set.name = (noV, false) := by
  induction l with
  | nil => rfl
  | cons p l ih =>
    by_cases h : p.name = set.name
    · rw [setGo_eq _ _ _ _ h, ih]
    · rw [setGo_on _ _ _ h, getL, if_neg h, ih]

theorem get_set (set : Pr) (l : List Pr) : getL (setGo set l false) set.name = (set.v, true) := by
  induction l with
  | nil => simp [setGo, getL]
  | cons p l ih =>
    by_cases h : p.name = set.name
    · rw [setGo_eq _ _ _ _ h, ih]
    · cases hl : ltS set.name p.name with
      | true => rw [setGo_at _ _ _ h hl, getL, if_pos rfl]
      | false => rw [setGo_no _ _ _ h hl, getL, if_neg h, ih]

theorem get_other (set : Pr) (l : List Pr) (pl : Bool) (other : ByteArray) (ho : other ≠ set.name) : getL (setGo set l pl) other = getL l other := by
  induction l generalizing pl with
  | nil => cases pl <;> simp [setGo, getL, Ne.symm ho]
  | cons p l ih =>
    by_cases h : p.name = set.name
    · rw [setGo_eq _ _ _ _ h, ih, getL, if_neg (fun e => ho (e.symm.trans h))]
    · cases pl with
      | true => rw [setGo_on _ _ _ h, getL, getL, ih]
      | false =>
        cases hl : ltS set.name p.name with
        | true => rw [setGo_at _ _ _ h hl, getL, if_neg (Ne.symm ho), getL, getL, ih]
        | false => rw [setGo_no _ _ _ h hl, getL, getL, ih]

theorem from_cons {prev : Option ByteArray} {p : Pr} {l : List Pr} (h : propsFrom prev (p :: l) = true) : nameB p.name = true ∧ goodB p.v = true ∧ behind prev p.name = true ∧ propsFrom (some p.name) l = true := by
  simpa [propsFrom] using h

theorem from_mk {prev : Option ByteArray} {p : Pr} {l : List Pr} (h1 : nameB p.name = true) (h2 : goodB p.v = true) (h3 : behind prev p.name = true) (h4 : propsFrom (some p.name) l = true) : propsFrom prev (p :: l) = true := by
  rw [propsFrom, h1, h2, h3, h4]
  rfl

theorem behind_trans {prev : Option ByteArray} {q p : ByteArray} (h : behind prev q = true) (g : ltS q p = true) : behind prev p = true := by
  cases prev with
  | none => rfl
  | some r => exact ltS_trans h g

theorem from_weaker {prev : Option ByteArray} {q : ByteArray} {l : List Pr} (h : behind prev q = true) (g : propsFrom (some q) l = true) : propsFrom prev l = true := by
  cases l with
  | nil => rfl
  | cons p l =>
    obtain ⟨h1, h2, h3, h4⟩ := from_cons g
    exact from_mk h1 h2 (behind_trans h h3) h4

theorem from_gone (set : Pr) (l : List Pr) (prev : Option ByteArray) (h : propsFrom prev l = true) : propsFrom prev (setGo set l true) = true := by
  induction l generalizing prev with
  | nil => rfl
  | cons p l ih =>
    obtain ⟨h1, h2, h3, h4⟩ := from_cons h
    by_cases hp : p.name = set.name
    · rw [setGo_eq _ _ _ _ hp]
      exact ih prev (from_weaker h3 h4)
    · rw [setGo_on _ _ _ hp]
      exact from_mk h1 h2 h3 (ih _ h4)

theorem from_set (set : Pr) (l : List Pr) (prev : Option ByteArray) (hn : nameB set.name = true) (hg : goodB set.v = true) (hb : behind prev set.name = true) (h : propsFrom prev l = true) : propsFrom prev (setGo set l false) = true := by
  induction l generalizing prev with
  | nil => exact from_mk hn hg hb rfl
  | cons p l ih =>
    obtain ⟨h1, h2, h3, h4⟩ := from_cons h
    by_cases hp : p.name = set.name
    · rw [setGo_eq _ _ _ _ hp]
      exact ih prev hb (from_weaker h3 h4)
    · cases hl : ltS set.name p.name with
      | true =>
        rw [setGo_at _ _ _ hp hl]
        exact from_mk hn hg hb (from_mk h1 h2 hl (from_gone set l _ h4))
      | false =>
        rw [setGo_no _ _ _ hp hl]
        refine from_mk h1 h2 h3 (ih _ ?_ h4)
        cases hq : ltS p.name set.name with
        | true => exact hq
        | false => exact absurd (ltS_total hq hl) hp

theorem gone_len (set : Pr) (l : List Pr) : (setGo set l true).length ≤ l.length := by
  induction l with
  | nil => simp [setGo]
  | cons p l ih =>
    by_cases h : p.name = set.name
    · rw [setGo_eq _ _ _ _ h]; simp; omega
    · rw [setGo_on _ _ _ h]; simp; omega

theorem set_len (set : Pr) (l : List Pr) : (setGo set l false).length ≤ l.length + 1 := by
  induction l with
  | nil => simp [setGo]
  | cons p l ih =>
    by_cases h : p.name = set.name
    · rw [setGo_eq _ _ _ _ h]; simp; omega
    · cases hl : ltS set.name p.name with
      | true => rw [setGo_at _ _ _ h hl]; have := gone_len set l; simp; omega
      | false => rw [setGo_no _ _ _ h hl]; simp; omega

theorem set_gone (set u : Pr) (l : List Pr) (pl : Bool) (hu : u.name = set.name) : setGo u (setGo set l pl) true = setGo u l true := by
  induction l generalizing pl with
  | nil => cases pl <;> simp [setGo, hu]
  | cons p l ih =>
    by_cases h : p.name = set.name
    · rw [setGo_eq _ _ _ _ h, ih, setGo_eq _ _ _ _ (h.trans hu.symm)]
    · have h' : p.name ≠ u.name := fun e => h (e.trans hu)
      cases pl with
      | true => rw [setGo_on _ _ _ h, setGo_on _ _ _ h', ih, setGo_on _ _ _ h']
      | false =>
        cases hl : ltS set.name p.name with
        | true => rw [setGo_at _ _ _ h hl, setGo_eq u set _ _ hu.symm, setGo_on _ _ _ h', ih, setGo_on _ _ _ h']
        | false => rw [setGo_no _ _ _ h hl, setGo_on _ _ _ h', ih, setGo_on _ _ _ h']

theorem set_mem (set : Pr) (l : List Pr) (pl : Bool) (p : Pr) (h : p ∈ setGo set l pl) : p = set ∨ p ∈ l := by
  induction l generalizing pl with
  | nil => cases pl <;> simp [setGo] at h; exact Or.inl h
  | cons q l ih =>
    by_cases hq : q.name = set.name
    · rw [setGo_eq _ _ _ _ hq] at h
      rcases ih pl h with h | h
      · exact Or.inl h
      · exact Or.inr (List.mem_cons_of_mem _ h)
    · have step : ∀ pl', p ∈ q :: setGo set l pl' → p = set ∨ p ∈ q :: l := by
        intro pl' h
        rcases List.mem_cons.1 h with rfl | h
        · exact Or.inr (List.mem_cons_self ..)
        · rcases ih pl' h with h | h
          · exact Or.inl h
          · exact Or.inr (List.mem_cons_of_mem _ h)
      cases pl with
      | true => rw [setGo_on _ _ _ hq] at h; exact step _ h
      | false =>
        cases hl : ltS set.name q.name with
        | true =>
          rw [setGo_at _ _ _ hq hl] at h
          rcases List.mem_cons.1 h with h | h
          · exact Or.inl h
          · exact step _ h
        | false => rw [setGo_no _ _ _ hq hl] at h; exact step _ h

/-- What ValKeeps asks, of lists. -/
theorem keeps_math (L : List Pr) (name other : ByteArray) (v : V) (hL : propsB L = true) (hn : nameB name = true) (hv : goodB v = true) :
    getL (setL L name v) name = (v, true) ∧ ((setL L name v).length ≤ 8 → propsB (setL L name v) = true) ∧ (other ≠ name → getL (setL L name v) other = getL L other) ∧
    (setL L name v).length ≤ 9 ∧ (setL (setL L name v) name noV).length ≤ 8 ∧ getL (setL (setL L name v) name noV) name = (noV, false) ∧ propsB (setL (setL L name v) name noV) = true ∧
    (∀ p ∈ setL L name v, p = ⟨name, v⟩ ∨ p ∈ L) ∧ (∀ p ∈ setL (setL L name v) name noV, p ∈ L) := by
  have hk : decide (v.k = 0) = false := decide_eq_false (good_kind hv)
  have h8 : L.length ≤ 8 := by
    by_cases h : L.length ≤ 8
    · exact h
    · rw [propsB_many h] at hL; cases hL
  rw [propsB_few h8] at hL
  have e1 : setL L name v = setGo ⟨name, v⟩ L false := by rw [setL, hk]
  have e2 : setL (setL L name v) name noV = setGo ⟨name, noV⟩ L true := by
    rw [e1, setL, show decide (noV.k = 0) = true from rfl, set_gone ⟨name, v⟩ ⟨name, noV⟩ L false rfl]
  have g8 : (setGo ⟨name, noV⟩ L true).length ≤ 8 := by have := gone_len ⟨name, noV⟩ L; omega
  rw [e2, e1]
  refine ⟨get_set _ _, fun h => ?_, fun ho => get_other _ _ _ _ ho, by have := set_len ⟨name, v⟩ L; omega, g8, get_gone _ _, ?_, fun p hp => set_mem _ _ _ _ hp, fun p hp => ?_⟩
  · rw [propsB_few h]
    exact from_set _ _ _ hn hv rfl hL
  · rw [propsB_few g8]
    exact from_gone _ _ _ hL
  · have mem : ∀ l : List Pr, p ∈ setGo ⟨name, noV⟩ l true → p ∈ l := by
      intro l
      induction l with
      | nil => intro h; simp [setGo] at h
      | cons q l ih =>
        intro h
        by_cases hq : q.name = name
        · rw [setGo_eq _ _ _ _ hq] at h
          exact List.mem_cons_of_mem _ (ih h)
        · rw [setGo_on _ _ _ hq] at h
          rcases List.mem_cons.1 h with rfl | h
          · exact List.mem_cons_self ..
          · exact List.mem_cons_of_mem _ (ih h)
    exact mem L hp

end Go.Proofs.Ytndbhalkhejgjab

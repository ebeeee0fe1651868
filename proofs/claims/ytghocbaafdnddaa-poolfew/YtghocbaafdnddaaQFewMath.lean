/- PoolFew: mathematics. -/
import Derived.Test.YtghocbaafdnddaaQFine
namespace Go.Proofs.Ytghocbaafdnddaa
open Go.RowKit

def putP (P : Nat → Nat) (k v : Nat) : Nat → Nat := fun j => if j = k then v else P j

/-- A pool whose frames are clean; P: how often each page is pinned. -/
structure Fw (n : Nat) (D : DS) (S : St) (P : Nat → Nat) : Prop where
  n : S.n = n
  D : S.D = D
  fr : ∀ f ∈ S.l, f.dirty = false ∧ P f.pg = f.pins
  no : ∀ j, (∀ f ∈ S.l, f.pg ≠ j) → P j = 0

theorem few_new (n : Nat) (D : DS) : Fw n D ⟨n, [], 0, 0, D⟩ (fun _ => 0) := ⟨rfl, rfl, fun f hf => (by cases hf), fun _ _ => rfl⟩

theorem few_held {n : Nat} {D : DS} {S : St} {P : Nat → Nat} (h : Fw n D S P) (j : Nat) (hj : P j ≠ 0) : (j : Int) ∈ heldS S := by
  refine (held_mem _ _).2 ?_
  by_cases q : ∃ f ∈ S.l, f.pg = j
  · obtain ⟨f, hf, e⟩ := q
    exact ⟨f, hf, by omega⟩
  · exact absurd (h.no j (fun f hf e => q ⟨f, hf, e⟩)) hj

theorem few_used {n : Nat} {D : DS} {S : St} {P : Nat → Nat} (h : Fw n D S P) {b : Nat} (ok : OkS b S) {i k : Nat} {f : Fm} (hi : S.l[i]? = some f) (m : Nat) (hk : f.pg = k) : Fw n D { S with l := S.l.eraseIdx i ++ [{ f with pins := m }] } (putP P k m) := by
  subst hk
  have hno := erase_no hi ok.uniq
  refine ⟨h.n, h.D, fun g hg => ?_, fun j hj => ?_⟩
  · rcases List.mem_append.1 hg with q | q
    · have := h.fr g (mem_erase q)
      exact ⟨this.1, by unfold putP; rw [if_neg (hno g q)]; exact this.2⟩
    · rw [List.mem_singleton] at q
      subst q
      exact ⟨(h.fr f (List.mem_of_getElem? hi)).1, by unfold putP; rw [if_pos rfl]⟩
  · have hjf : j ≠ f.pg := fun e => hj { f with pins := m } (by simp) e.symm
    unfold putP
    rw [if_neg hjf]
    refine h.no j (fun g hg e => ?_)
    have hp : (S.l.eraseIdx i ++ [f]).Perm S.l := by
      have hlt : i < S.l.length := (List.getElem?_eq_some_iff.1 hi).1
      have e0 : S.l[i] = f := by rw [List.getElem?_eq_getElem hlt] at hi; exact Option.some.inj hi
      have e1 : S.l = S.l.take i ++ f :: S.l.drop (i + 1) := by rw [← e0, ← List.drop_eq_getElem_cons hlt, List.take_append_drop]
      rw [List.eraseIdx_eq_take_drop_succ]
      conv => rhs; rw [e1]
      rw [List.append_assoc]
      exact List.Perm.append_left _ (List.perm_append_comm (l₁ := S.l.drop (i + 1)) (l₂ := [f]))
    rcases List.mem_append.1 (hp.mem_iff.2 hg) with q | q
    · exact hj g (List.mem_append_left _ q) e
    · rw [List.mem_singleton] at q
      subst q
      exact hjf e.symm

theorem few_unpin {n : Nat} {D : DS} {S : St} {P : Nat → Nat} (h : Fw n D S P) {b : Nat} (ok : OkS b S) (k : Nat) (hk : P k ≠ 0) : (unpinS S (k : Int)).1 = 0 ∧ Fw n D (unpinS S (k : Int)).2 (putP P k (P k - 1)) := by
  cases hx : idx S.l (k : Int) with
  | none => exact absurd (h.no k (fun f hf e => by
      obtain ⟨j, hj⟩ := List.getElem?_of_mem hf
      exact idx_none hx j f hj (by omega))) hk
  | some i =>
    obtain ⟨f, hi, hfa, _⟩ := idx_some hx
    have hpg : f.pg = k := by omega
    have hp := (h.fr f (List.mem_of_getElem? hi)).2
    rw [hpg] at hp
    have e : unpinS S (k : Int) = (0, { S with l := S.l.eraseIdx i ++ [{ f with pins := f.pins - 1 }] }) := by
      unfold unpinS
      rw [hx]
      simp only
      rw [hi]
      simp only
      rw [if_neg (by omega)]
    rw [e]
    have := few_used h ok hi (f.pins - 1) hpg
    rw [hp]
    exact ⟨rfl, this⟩

theorem few_pin {n : Nat} {D : DS} {S : St} {P : Nat → Nat} (h : Fw n D S P) {b : Nat} (ok : OkS b S) (hf : fine D) (k : Nat) (hk : k < D.n) :
    ((pinS S (k : Int)).1.2 = 0 ∧ Fw n D (pinS S (k : Int)).2 (putP P k (P k + 1))) ∨ ((pinS S (k : Int)).1.2 = 70 ∧ Fw n D (pinS S (k : Int)).2 P) := by
  have hD := h.D
  have hleft : ¬ S.D.left = 0 := by rw [hD]; have := hf.1; omega
  have hr : 0 ≤ (k : Int) ∧ (k : Int) < (S.D.n : Int) := ⟨by omega, by rw [hD]; omega⟩
  cases hx : idx S.l (k : Int) with
  | some i =>
    obtain ⟨f, hi, hfa, _⟩ := idx_some hx
    have hpg : f.pg = k := by omega
    have hp := (h.fr f (List.mem_of_getElem? hi)).2
    rw [hpg] at hp
    have e : pinS S (k : Int) = ((f.s, 0), { S with l := S.l.eraseIdx i ++ [{ f with pins := f.pins + 1 }] }) := by
      unfold pinS
      rw [if_pos hr, hx]
      simp only
      rw [hi]
    rw [e]
    have := few_used h ok hi (f.pins + 1) hpg
    rw [hp]
    exact Or.inl ⟨rfl, this⟩
  | none =>
    have hno : ∀ f ∈ S.l, f.pg ≠ k := fun f hf e => by
      obtain ⟨j, hj⟩ := List.getElem?_of_mem hf
      exact idx_none hx j f hj (by omega)
    have hPk : P k = 0 := h.no k hno
    -- what a read leaves
    have fin : ∀ (A : List Fm), (∀ f ∈ A, f ∈ S.l) → (∀ g ∈ S.l, g ∈ A ∨ g.pins = 0) → takeS S = (0, { S with l := A }) → (pinS S (k : Int)).1.2 = 0 ∧ Fw n D (pinS S (k : Int)).2 (putP P k (P k + 1)) := by
      intro A hA hB et
      have e : pinS S (k : Int) = ((S.D.seen k, 0), { S with rd := S.rd + 1, l := A ++ [⟨k, S.D.seen k, 1, false⟩] }) := by
        unfold pinS
        rw [if_pos hr, hx]
        simp only
        rw [et]
        simp only [if_true, Int.toNat_natCast]
        unfold readS
        rw [if_neg hleft]
      rw [e, hPk]
      refine ⟨rfl, ⟨h.n, h.D, fun g hg => ?_, fun j hj => ?_⟩⟩
      · rcases List.mem_append.1 hg with q | q
        · have := h.fr g (hA g q)
          exact ⟨this.1, by unfold putP; rw [if_neg (hno g (hA g q))]; exact this.2⟩
        · rw [List.mem_singleton] at q
          subst q
          exact ⟨rfl, by unfold putP; rw [if_pos rfl]⟩
      · have hjk : j ≠ k := fun e => hj ⟨k, S.D.seen k, 1, false⟩ (by simp) e.symm
        unfold putP
        rw [if_neg hjk]
        by_cases q : ∃ g ∈ S.l, g.pg = j
        · obtain ⟨g, hg, e⟩ := q
          rcases hB g hg with z | z
          · exact absurd e (hj g (List.mem_append_left _ z))
          · rw [← e, (h.fr g hg).2, z]
        · exact h.no j (fun g hg e => q ⟨g, hg, e⟩)
    by_cases hc : S.l.length = S.n
    · cases hu : uAt S.l 0 with
      | nil =>
        have et : takeS S = (70, S) := by unfold takeS; rw [if_pos hc, hu]
        have e : pinS S (k : Int) = ((⟨#[]⟩, 70), S) := by
          unfold pinS
          rw [if_pos hr, hx]
          simp only
          rw [et]
          rfl
        rw [e]
        exact Or.inr ⟨rfl, h⟩
      | cons i r =>
        obtain ⟨_, f, hfi, hp0⟩ := uAt_get S.l 0 0 i (by rw [hu]; rfl)
        rw [Nat.sub_zero] at hfi
        obtain ⟨c1, c2, c3⟩ := wrD_clean (D := S.D) (h.fr f (List.mem_of_getElem? hfi)).1
        refine Or.inl (fin (S.l.eraseIdx i) (fun g hg => mem_erase hg) (fun g hg => ?_) ?_)
        · by_cases q : g ∈ S.l.eraseIdx i
          · exact Or.inl q
          · refine Or.inr ?_
            have hp : (S.l.eraseIdx i ++ [f]).Perm S.l := by
              have hlt : i < S.l.length := (List.getElem?_eq_some_iff.1 hfi).1
              have e0 : S.l[i] = f := by rw [List.getElem?_eq_getElem hlt] at hfi; exact Option.some.inj hfi
              have e1 : S.l = S.l.take i ++ f :: S.l.drop (i + 1) := by rw [← e0, ← List.drop_eq_getElem_cons hlt, List.take_append_drop]
              rw [List.eraseIdx_eq_take_drop_succ]
              conv => rhs; rw [e1]
              rw [List.append_assoc]
              exact List.Perm.append_left _ (List.perm_append_comm (l₁ := S.l.drop (i + 1)) (l₂ := [f]))
            rcases List.mem_append.1 (hp.mem_iff.2 hg) with z | z
            · exact absurd z q
            · rw [List.mem_singleton] at z
              rw [z]; exact hp0
        · unfold takeS
          rw [if_pos hc, hu]
          simp only
          rw [hfi]
          simp only
          unfold giveS
          rw [if_pos c2, c1, c3]
          rfl
    · exact Or.inl (fin S.l (fun _ q => q) (fun _ q => Or.inl q) (by unfold takeS; rw [if_neg hc]))
end Go.Proofs.Ytghocbaafdnddaa

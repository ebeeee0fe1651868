/- What holds of a device at each moment; how it stands to the document's one. -/
import Derived.Test.YthodnhcnaeajnaaDRefCrash
import Derived.Test.YthodnhcnaeajnaaDRefNew
namespace Go.Proofs.Ythodnhcnaeajnaa
open Go.RowKit

theorem flN_size {f : Nat → ByteArray} {l : List (Nat × ByteArray)} {n : Nat} (hf : ∀ j, j < n → (f j).size = 512) (hh : ∀ p ∈ l, p.1 < n ∧ p.2.size = 512) (k : Nat) : ∀ j, j < n → (flN f l k j).size = 512 := by
  induction k with
  | zero => exact hf
  | succ k ih =>
    cases hp : l[k]? with
    | none => rw [flN, hp]; exact ih
    | some p =>
      rw [flN_succ _ _ _ _ hp]
      exact upd_size ih (hh p (List.mem_of_getElem? hp)).2

theorem flN_app (f : Nat → ByteArray) (l : List (Nat × ByteArray)) (p : Nat × ByteArray) (k : Nat) (hk : k ≤ l.length) : flN f (l ++ [p]) k = flN f l k := by
  induction k with
  | zero => rfl
  | succ k ih =>
    have hlt : k < l.length := by omega
    have h1 : (l ++ [p])[k]? = some l[k] := by rw [List.getElem?_append_left hlt]; simp [hlt]
    have h2 : l[k]? = some l[k] := by simp [hlt]
    rw [flN_succ _ _ _ _ h1, flN_succ _ _ _ _ h2, ih (by omega)]

theorem flN_push (f : Nat → ByteArray) (l : List (Nat × ByteArray)) (p : Nat × ByteArray) : flN f (l ++ [p]) (l.length + 1) = upd (flN f l l.length) p.1 p.2 := by
  rw [flN_succ f (l ++ [p]) l.length p (by simp), flN_app _ _ _ _ (Nat.le_refl _)]

/-- Nothing was written to j. -/
def Off (l : List (Nat × ByteArray)) (k j : Nat) : Prop := ∀ i p, i < k → l[i]? = some p → p.1 ≠ j

theorem flN_off (f : Nat → ByteArray) (l : List (Nat × ByteArray)) (j k : Nat) (h : Off l k j) : flN f l k j = f j := by
  induction k with
  | zero => rfl
  | succ k ih =>
    have ih := ih (fun i p hi hp => h i p (by omega) hp)
    cases hp : l[k]? with
    | none => rw [flN, hp]; exact ih
    | some p =>
      rw [flN_succ _ _ _ _ hp]
      unfold upd
      rw [if_neg (fun e => h k p (by omega) hp e.symm)]
      exact ih

theorem crN_off (f : Nat → ByteArray) (l : List (Nat × ByteArray)) (keep : List Int) (j k : Nat) (h : Off l k j) : crN f l keep k j = f j := by
  induction k with
  | zero => rfl
  | succ k ih =>
    have ih := ih (fun i p hi hp => h i p (by omega) hp)
    cases hx : keep[k]? with
    | none => rw [crN_none _ _ _ _ hx]; exact ih
    | some x =>
      cases hp : l[k]? with
      | none => rw [crN, hp]; exact ih
      | some p =>
        rw [crN_some _ _ _ _ _ _ hp hx]
        unfold upd
        rw [if_neg (fun e => h k p (by omega) hp e.symm)]
        exact ih

theorem seN_off (f S : Nat → ByteArray) (l : List (Nat × ByteArray)) (j k : Nat) (h : Off l k j) : seN f S l k j = f j := by
  induction k with
  | zero => rfl
  | succ k ih =>
    have ih := ih (fun i p hi hp => h i p (by omega) hp)
    cases hp : l[k]? with
    | none => rw [seN, hp]; exact ih
    | some p =>
      rw [seN_succ _ _ _ _ _ hp]
      unfold upd
      rw [if_neg (fun e => h k p (by omega) hp e.symm)]
      exact ih

theorem seN_on (f S : Nat → ByteArray) (l : List (Nat × ByteArray)) (j k : Nat) (h : ¬ Off l k j) : seN f S l k j = S j := by
  induction k with
  | zero => exact absurd (fun i p hi _ => absurd hi (by omega)) h
  | succ k ih =>
    cases hp : l[k]? with
    | none =>
      rw [seN, hp]
      refine ih (fun o => h (fun i p hi hq => ?_))
      rcases Nat.lt_or_ge i k with q | q
      · exact o i p q hq
      · have : i = k := by omega
        subst this
        rw [hp] at hq
        cases hq
    | some p =>
      rw [seN_succ _ _ _ _ _ hp]
      unfold upd
      split
      · rename_i e; rw [e]
      · rename_i e
        refine ih (fun o => h (fun i q hi hq => ?_))
        rcases Nat.lt_or_ge i k with r | r
        · exact o i q r hq
        · have : i = k := by omega
          subst this
          rw [hp] at hq
          cases hq
          exact fun z => e z.symm

theorem seN_all (seen safe : Nat → ByteArray) (l : List (Nat × ByteArray)) (keep : List Int) (k : Nat) (h : flN safe l k = seen) : seN seen (crN safe l keep k) l k = crN safe l keep k := by
  funext j
  by_cases o : Off l k j
  · rw [seN_off _ _ _ _ _ o, ← h, flN_off _ _ _ _ o, crN_off _ _ _ _ _ o]
  · exact seN_on _ _ _ _ _ o

/-- What holds of a device behind b operations. -/
structure Inv (b : Nat) (D : DS) : Prop where
  n : 1 ≤ D.n ∧ D.n ≤ 8192
  held : ∀ p ∈ D.held, p.1 < D.n ∧ p.2.size = 512
  safe : ∀ j, j < D.n → (D.safe j).size = 512
  seen : flN D.safe D.held D.held.length = D.seen
  ops : 0 ≤ D.ops ∧ D.ops ≤ (b : Int)
  left : -1 - (b : Int) ≤ D.left ∧ D.left ≤ 9223372036854775807
  next : -(b : Int) ≤ D.next ∧ D.next ≤ 9223372036854775807
  len : D.held.length ≤ b

theorem Inv.seenSize {b : Nat} {D : DS} (h : Inv b D) : ∀ j, j < D.n → (D.seen j).size = 512 := by
  rw [← h.seen]
  exact flN_size h.safe h.held _

theorem Inv.mono {b c : Nat} {D : DS} (h : Inv b D) (hc : b ≤ c) : Inv c D :=
  ⟨h.n, h.held, h.safe, h.seen, ⟨h.ops.1, by have := h.ops.2; omega⟩, ⟨by have := h.left.1; omega, h.left.2⟩, ⟨by have := h.next.1; omega, h.next.2⟩, Nat.le_trans h.len hc⟩

theorem inv_new (n : Nat) (h1 : 1 ≤ n) (h2 : n ≤ 8192) : Inv 0 (D0 n) :=
  ⟨⟨h1, h2⟩, (by intro p hp; cases hp), fun _ _ => blk_size 0, rfl, of_decide_eq_true rfl, of_decide_eq_true rfl, of_decide_eq_true rfl, Nat.le_refl _⟩

theorem Inv.wrote {b : Nat} {D : DS} (h : Inv b D) (i : Nat) (s : ByteArray) (hi : i < D.n) (hs : s.size = 512) : Inv (b + 1) (D.wrote i s) := by
  obtain ⟨a1, a2, a3, a4, a5, a6, a7, a8⟩ := h
  refine ⟨a1, ?_, a3, ?_, ?_, ?_, ?_, ?_⟩
  · intro p hp
    rcases List.mem_append.1 (show p ∈ D.held ++ [(i, s)] from hp) with q | q
    · exact a2 p q
    · simp at q
      subst q
      exact ⟨hi, hs⟩
  · show flN D.safe (D.held ++ [(i, s)]) (D.held ++ [(i, s)]).length = upd D.seen i s
    rw [List.length_append, List.length_singleton, flN_push, a4]
  · show 0 ≤ D.ops + 1 ∧ D.ops + 1 ≤ ((b + 1 : Nat) : Int)
    omega
  · show -1 - ((b + 1 : Nat) : Int) ≤ D.left - 1 ∧ D.left - 1 ≤ 9223372036854775807
    omega
  · show -((b + 1 : Nat) : Int) ≤ D.next - 1 ∧ D.next - 1 ≤ 9223372036854775807
    omega
  · show (D.held ++ [(i, s)]).length ≤ b + 1
    rw [List.length_append, List.length_singleton]
    omega

theorem Inv.flushed {b : Nat} {D : DS} (h : Inv b D) : Inv (b + 1) D.flushed := by
  obtain ⟨a1, a2, a3, a4, a5, a6, a7, a8⟩ := h
  refine ⟨a1, (by intro p hp; cases hp), flN_size a3 a2 _, a4, ?_, ?_, ?_, Nat.zero_le _⟩
  · show 0 ≤ D.ops + 1 ∧ D.ops + 1 ≤ ((b + 1 : Nat) : Int)
    omega
  · show -1 - ((b + 1 : Nat) : Int) ≤ D.left - 1 ∧ D.left - 1 ≤ 9223372036854775807
    omega
  · show -((b + 1 : Nat) : Int) ≤ D.next ∧ D.next ≤ 9223372036854775807
    omega

theorem Inv.crashed {b : Nat} {D : DS} (h : Inv b D) (L : List Int) : Inv b (D.crashed L) := by
  obtain ⟨a1, a2, a3, a4, a5, a6, a7, a8⟩ := h
  refine ⟨a1, (by intro p hp; cases hp), crN_size a3 a2 _, (seN_all _ _ _ _ _ a4).symm, a5, ?_, ?_, Nat.zero_le _⟩
  · show -1 - (b : Int) ≤ -1 ∧ (-1 : Int) ≤ 9223372036854775807
    omega
  · show -(b : Int) ≤ 0 ∧ (0 : Int) ≤ 9223372036854775807
    omega

theorem Inv.armed {b : Nat} {D : DS} (h : Inv b D) (x : Int) (hx : x ≤ 9223372036854775807) : Inv b { D with left := max x (-1) } := by
  obtain ⟨a1, a2, a3, a4, a5, a6, a7, a8⟩ := h
  exact ⟨a1, a2, a3, a4, a5, ⟨by show -1 - (b : Int) ≤ max x (-1); omega, by show max x (-1) ≤ 9223372036854775807; omega⟩, a7, a8⟩

theorem Inv.refused {b : Nat} {D : DS} (h : Inv b D) (x : Int) (hx : x ≤ 9223372036854775807) : Inv b { D with next := max x 0 } := by
  obtain ⟨a1, a2, a3, a4, a5, a6, a7, a8⟩ := h
  exact ⟨a1, a2, a3, a4, a5, a6, ⟨by show -(b : Int) ≤ max x 0; omega, by show max x 0 ≤ 9223372036854775807; omega⟩, a8⟩

theorem Inv.broken {b : Nat} {D : DS} (h : Inv b D) : Inv b { D with next := 0 } := by
  obtain ⟨a1, a2, a3, a4, a5, a6, a7, a8⟩ := h
  exact ⟨a1, a2, a3, a4, a5, a6, ⟨by show -(b : Int) ≤ 0; omega, by show (0 : Int) ≤ 9223372036854775807; omega⟩, a8⟩

/-- A device and the document's one. -/
structure Rel (D : DS) (Q : RS) : Prop where
  n : D.n = Q.n
  seen : D.seen = Q.seen
  safe : D.safe = Q.safe
  held : D.held = Q.held
  ops : D.ops = Q.ops
  arm : (Q.armed = false ∧ D.left < 0) ∨ (Q.armed = true ∧ D.left = Q.left ∧ 0 ≤ Q.left)
  ref : (Q.refuse = 0 ∧ D.next ≤ 0) ∨ (0 < Q.refuse ∧ D.next = Q.refuse)

theorem rel_new (n : Nat) : Rel (D0 n) (R0 n) := ⟨rfl, rfl, rfl, rfl, rfl, Or.inl ⟨rfl, of_decide_eq_true rfl⟩, Or.inl ⟨rfl, of_decide_eq_true rfl⟩⟩

theorem Rel.down {D : DS} {Q : RS} (h : Rel D Q) : (D.left == 0) = Q.down := by
  unfold RS.down
  rcases h.arm with ⟨a, l⟩ | ⟨a, l, m⟩
  · rw [a, Bool.false_and, beq_eq_false_iff_ne]; omega
  · rw [a, Bool.true_and, l]
    by_cases e : Q.left = 0
    · rw [e]; rfl
    · rw [show (Q.left == 0) = false by simpa using e]
      symm
      simp
      omega

theorem Rel.arms {D : DS} {Q : RS} (h : Rel D Q) (x : Int) : Rel { D with left := max x (-1) } { Q with armed := decide (0 ≤ x), left := x } := by
  refine ⟨h.n, h.seen, h.safe, h.held, h.ops, ?_, h.ref⟩
  by_cases e : 0 ≤ x
  · right; exact ⟨by simpa using e, by show max x (-1) = x; omega, e⟩
  · left; exact ⟨by simpa using e, by show max x (-1) < 0; omega⟩

theorem Rel.refuses {D : DS} {Q : RS} (h : Rel D Q) (x : Int) : Rel { D with next := max x 0 } { Q with refuse := max x 0 } := by
  refine ⟨h.n, h.seen, h.safe, h.held, h.ops, h.arm, ?_⟩
  by_cases e : 0 < x
  · right; exact ⟨by show 0 < max x 0; omega, rfl⟩
  · left; exact ⟨by show max x 0 = 0; omega, by show max x 0 ≤ 0; omega⟩

theorem Rel.broken {D : DS} {Q : RS} (h : Rel D Q) : Rel { D with next := 0 } { Q with refuse := 0 } :=
  ⟨h.n, h.seen, h.safe, h.held, h.ops, h.arm, Or.inl ⟨rfl, Int.le_refl _⟩⟩

theorem Rel.counted {D : DS} {Q : RS} (h : Rel D Q) (hl : D.left ≠ 0) : Rel { D with ops := D.ops + 1, left := D.left - 1 } Q.counted := by
  refine ⟨h.n, h.seen, h.safe, h.held, by show D.ops + 1 = Q.ops + 1; rw [h.ops], ?_, h.ref⟩
  rcases h.arm with ⟨a, l⟩ | ⟨a, l, m⟩
  · left
    exact ⟨a, by show D.left - 1 < 0; omega⟩
  · right
    refine ⟨a, ?_, ?_⟩
    · show D.left - 1 = if Q.armed = true then Q.left - 1 else Q.left
      rw [if_pos a, l]
    · show 0 ≤ if Q.armed = true then Q.left - 1 else Q.left
      rw [if_pos a]
      omega

theorem Rel.wrote {D : DS} {Q : RS} (h : Rel D Q) (i : Nat) (s : ByteArray) (hl : D.left ≠ 0) (hn : D.next ≠ 1) : Rel (D.wrote i s) (Q.wrote i s) := by
  have h1 : Rel { D with seen := upd D.seen i s, held := D.held ++ [(i, s)], next := D.next - 1 } { Q with refuse := if 0 < Q.refuse then Q.refuse - 1 else Q.refuse, seen := upd Q.seen i s, held := Q.held ++ [(i, s)] } := by
    refine ⟨h.n, by rw [h.seen], h.safe, by rw [h.held], h.ops, h.arm, ?_⟩
    rcases h.ref with ⟨a, l⟩ | ⟨a, l⟩
    · left
      refine ⟨?_, by show D.next - 1 ≤ 0; omega⟩
      show (if 0 < Q.refuse then Q.refuse - 1 else Q.refuse) = 0
      rw [if_neg (by omega), a]
    · right
      refine ⟨?_, ?_⟩
      · show 0 < (if 0 < Q.refuse then Q.refuse - 1 else Q.refuse)
        rw [if_pos a]
        omega
      · show D.next - 1 = (if 0 < Q.refuse then Q.refuse - 1 else Q.refuse)
        rw [if_pos a, l]
  exact h1.counted hl

theorem Rel.flushed {D : DS} {Q : RS} {b : Nat} (h : Rel D Q) (hi : Inv b D) (hl : D.left ≠ 0) : Rel D.flushed Q.flushed := by
  have h1 : Rel { D with safe := flN D.safe D.held D.held.length, held := [] } { Q with safe := Q.seen, held := [] } :=
    ⟨h.n, h.seen, by rw [hi.seen, h.seen], rfl, h.ops, h.arm, h.ref⟩
  exact h1.counted hl

theorem Rel.crashed {D : DS} {Q : RS} {b : Nat} (h : Rel D Q) (hi : Inv b D) (L : List Int) : Rel (D.crashed L) (Q.crashed L) := by
  refine ⟨h.n, ?_, ?_, rfl, h.ops, Or.inl ⟨rfl, by show (-1 : Int) < 0; omega⟩, Or.inl ⟨rfl, Int.le_refl _⟩⟩
  · show seN D.seen (crN D.safe D.held L D.held.length) D.held D.held.length = crN Q.safe Q.held L Q.held.length
    rw [seN_all _ _ _ _ _ hi.seen, h.safe, h.held]
  · show crN D.safe D.held L D.held.length = crN Q.safe Q.held L Q.held.length
    rw [h.safe, h.held]

end Go.Proofs.Ythodnhcnaeajnaa

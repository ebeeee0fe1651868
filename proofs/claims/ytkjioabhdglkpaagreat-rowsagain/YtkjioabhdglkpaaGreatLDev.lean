/- A device: what holds of it at each moment; each call of it, whatever its state; two remainders. (The texts of stage 4 without the document's device.) -/
import Derived.Test.YtkjioabhdglkpaaGreatDCrash
import Derived.Deep.RegionHeld3
namespace Go.Proofs.YtkjioabhdglkpaaGreat
open Go.RowKit

theorem Fr.belowD {B : Nat} {W w w' : World} {g gs : Nat} {hv : Value} {D : DS} (hf : Fr (foot g gs hv) w w') (hb : Below W.heap.size W w) (h : Dev B w g gs hv D) (hB : W.heap.size ≤ B) : Below W.heap.size W w' :=
  hf.below hb hb.size (fun k hk => Nat.le_trans hB (h.from k hk))

theorem flN_size {f : Nat → ByteArray} {l : List (Nat × ByteArray)} {n : Nat} (hf : ∀ j, j < n → (f j).size = 512) (hh : ∀ p ∈ l, p.1 < n ∧ p.2.size = 512) (k : Nat) : ∀ j, j < n → (flN f l k j).size = 512 := by
  induction k with
  | zero => exact hf
  | succ k ih =>
    cases hp : l[k]? with
    | none => rw [flN, hp]; exact ih
    | some p =>
      rw [flN_succ _ _ _ _ hp]
      exact upd_size ih (hh p (List.mem_of_getElem? hp)).2

theorem flN_app (f : Nat → ByteArray) (l : List (Nat × ByteArray)) (p : Nat × ByteArray) (k : Nat) (hk : k ≤ l.length) : flN f (l ++ [p]) k = flN f l k := by
  induction k with
  | zero => rfl
  | succ k ih =>
    have hlt : k < l.length := by omega
    have h1 : (l ++ [p])[k]? = some l[k] := by rw [List.getElem?_append_left hlt]; simp [hlt]
    have h2 : l[k]? = some l[k] := by simp [hlt]
    rw [flN_succ _ _ _ _ h1, flN_succ _ _ _ _ h2, ih (by omega)]

theorem flN_push (f : Nat → ByteArray) (l : List (Nat × ByteArray)) (p : Nat × ByteArray) : flN f (l ++ [p]) (l.length + 1) = upd (flN f l l.length) p.1 p.2 := by
  rw [flN_succ f (l ++ [p]) l.length p (by simp), flN_app _ _ _ _ (Nat.le_refl _)]

/-- Nothing was written to j. -/
def Off (l : List (Nat × ByteArray)) (k j : Nat) : Prop := ∀ i p, i < k → l[i]? = some p → p.1 ≠ j

theorem flN_off (f : Nat → ByteArray) (l : List (Nat × ByteArray)) (j k : Nat) (h : Off l k j) : flN f l k j = f j := by
  induction k with
  | zero => rfl
  | succ k ih =>
    have ih := ih (fun i p hi hp => h i p (by omega) hp)
    cases hp : l[k]? with
    | none => rw [flN, hp]; exact ih
    | some p =>
      rw [flN_succ _ _ _ _ hp]
      unfold upd
      rw [if_neg (fun e => h k p (by omega) hp e.symm)]
      exact ih

theorem crN_off (f : Nat → ByteArray) (l : List (Nat × ByteArray)) (keep : List Int) (j k : Nat) (h : Off l k j) : crN f l keep k j = f j := by
  induction k with
  | zero => rfl
  | succ k ih =>
    have ih := ih (fun i p hi hp => h i p (by omega) hp)
    cases hx : keep[k]? with
    | none => rw [crN_none _ _ _ _ hx]; exact ih
    | some x =>
      cases hp : l[k]? with
      | none => rw [crN, hp]; exact ih
      | some p =>
        rw [crN_some _ _ _ _ _ _ hp hx]
        unfold upd
        rw [if_neg (fun e => h k p (by omega) hp e.symm)]
        exact ih

theorem seN_off (f S : Nat → ByteArray) (l : List (Nat × ByteArray)) (j k : Nat) (h : Off l k j) : seN f S l k j = f j := by
  induction k with
  | zero => rfl
  | succ k ih =>
    have ih := ih (fun i p hi hp => h i p (by omega) hp)
    cases hp : l[k]? with
    | none => rw [seN, hp]; exact ih
    | some p =>
      rw [seN_succ _ _ _ _ _ hp]
      unfold upd
      rw [if_neg (fun e => h k p (by omega) hp e.symm)]
      exact ih

theorem seN_on (f S : Nat → ByteArray) (l : List (Nat × ByteArray)) (j k : Nat) (h : ¬ Off l k j) : seN f S l k j = S j := by
  induction k with
  | zero => exact absurd (fun i p hi _ => absurd hi (by omega)) h
  | succ k ih =>
    cases hp : l[k]? with
    | none =>
      rw [seN, hp]
      refine ih (fun o => h (fun i p hi hq => ?_))
      rcases Nat.lt_or_ge i k with q | q
      · exact o i p q hq
      · have : i = k := by omega
        subst this
        rw [hp] at hq
        cases hq
    | some p =>
      rw [seN_succ _ _ _ _ _ hp]
      unfold upd
      split
      · rename_i e; rw [e]
      · rename_i e
        refine ih (fun o => h (fun i q hi hq => ?_))
        rcases Nat.lt_or_ge i k with r | r
        · exact o i q r hq
        · have : i = k := by omega
          subst this
          rw [hp] at hq
          cases hq
          exact fun z => e z.symm

theorem seN_all (seen safe : Nat → ByteArray) (l : List (Nat × ByteArray)) (keep : List Int) (k : Nat) (h : flN safe l k = seen) : seN seen (crN safe l keep k) l k = crN safe l keep k := by
  funext j
  by_cases o : Off l k j
  · rw [seN_off _ _ _ _ _ o, ← h, flN_off _ _ _ _ o, crN_off _ _ _ _ _ o]
  · exact seN_on _ _ _ _ _ o

/-- What holds of a device behind b operations. -/
structure Inv (b : Nat) (D : DS) : Prop where
  n : 1 ≤ D.n ∧ D.n ≤ 8192
  held : ∀ p ∈ D.held, p.1 < D.n ∧ p.2.size = 512
  safe : ∀ j, j < D.n → (D.safe j).size = 512
  seen : flN D.safe D.held D.held.length = D.seen
  ops : 0 ≤ D.ops ∧ D.ops ≤ (b : Int)
  left : -1 - (b : Int) ≤ D.left ∧ D.left ≤ 9223372036854775807
  next : -(b : Int) ≤ D.next ∧ D.next ≤ 9223372036854775807
  len : D.held.length ≤ b

theorem Inv.seenSize {b : Nat} {D : DS} (h : Inv b D) : ∀ j, j < D.n → (D.seen j).size = 512 := by
  rw [← h.seen]
  exact flN_size h.safe h.held _

theorem Inv.mono {b c : Nat} {D : DS} (h : Inv b D) (hc : b ≤ c) : Inv c D :=
  ⟨h.n, h.held, h.safe, h.seen, ⟨h.ops.1, by have := h.ops.2; omega⟩, ⟨by have := h.left.1; omega, h.left.2⟩, ⟨by have := h.next.1; omega, h.next.2⟩, Nat.le_trans h.len hc⟩

theorem inv_new (n : Nat) (h1 : 1 ≤ n) (h2 : n ≤ 8192) : Inv 0 (D0 n) :=
  ⟨⟨h1, h2⟩, (by intro p hp; cases hp), fun _ _ => blk_size 0, rfl, of_decide_eq_true rfl, of_decide_eq_true rfl, of_decide_eq_true rfl, Nat.le_refl _⟩

theorem Inv.wrote {b : Nat} {D : DS} (h : Inv b D) (i : Nat) (s : ByteArray) (hi : i < D.n) (hs : s.size = 512) : Inv (b + 1) (D.wrote i s) := by
  obtain ⟨a1, a2, a3, a4, a5, a6, a7, a8⟩ := h
  refine ⟨a1, ?_, a3, ?_, ?_, ?_, ?_, ?_⟩
  · intro p hp
    rcases List.mem_append.1 (show p ∈ D.held ++ [(i, s)] from hp) with q | q
    · exact a2 p q
    · simp at q
      subst q
      exact ⟨hi, hs⟩
  · show flN D.safe (D.held ++ [(i, s)]) (D.held ++ [(i, s)]).length = upd D.seen i s
    rw [List.length_append, List.length_singleton, flN_push, a4]
  · show 0 ≤ D.ops + 1 ∧ D.ops + 1 ≤ ((b + 1 : Nat) : Int)
    omega
  · show -1 - ((b + 1 : Nat) : Int) ≤ D.left - 1 ∧ D.left - 1 ≤ 9223372036854775807
    omega
  · show -((b + 1 : Nat) : Int) ≤ D.next - 1 ∧ D.next - 1 ≤ 9223372036854775807
    omega
  · show (D.held ++ [(i, s)]).length ≤ b + 1
    rw [List.length_append, List.length_singleton]
    omega

theorem Inv.flushed {b : Nat} {D : DS} (h : Inv b D) : Inv (b + 1) D.flushed := by
  obtain ⟨a1, a2, a3, a4, a5, a6, a7, a8⟩ := h
  refine ⟨a1, (by intro p hp; cases hp), flN_size a3 a2 _, a4, ?_, ?_, ?_, Nat.zero_le _⟩
  · show 0 ≤ D.ops + 1 ∧ D.ops + 1 ≤ ((b + 1 : Nat) : Int)
    omega
  · show -1 - ((b + 1 : Nat) : Int) ≤ D.left - 1 ∧ D.left - 1 ≤ 9223372036854775807
    omega
  · show -((b + 1 : Nat) : Int) ≤ D.next ∧ D.next ≤ 9223372036854775807
    omega

theorem Inv.crashed {b : Nat} {D : DS} (h : Inv b D) (L : List Int) : Inv b (D.crashed L) := by
  obtain ⟨a1, a2, a3, a4, a5, a6, a7, a8⟩ := h
  refine ⟨a1, (by intro p hp; cases hp), crN_size a3 a2 _, (seN_all _ _ _ _ _ a4).symm, a5, ?_, ?_, Nat.zero_le _⟩
  · show -1 - (b : Int) ≤ -1 ∧ (-1 : Int) ≤ 9223372036854775807
    omega
  · show -(b : Int) ≤ 0 ∧ (0 : Int) ≤ 9223372036854775807
    omega

theorem Inv.armed {b : Nat} {D : DS} (h : Inv b D) (x : Int) (hx : x ≤ 9223372036854775807) : Inv b { D with left := max x (-1) } := by
  obtain ⟨a1, a2, a3, a4, a5, a6, a7, a8⟩ := h
  exact ⟨a1, a2, a3, a4, a5, ⟨by show -1 - (b : Int) ≤ max x (-1); omega, by show max x (-1) ≤ 9223372036854775807; omega⟩, a7, a8⟩

theorem Inv.refused {b : Nat} {D : DS} (h : Inv b D) (x : Int) (hx : x ≤ 9223372036854775807) : Inv b { D with next := max x 0 } := by
  obtain ⟨a1, a2, a3, a4, a5, a6, a7, a8⟩ := h
  exact ⟨a1, a2, a3, a4, a5, a6, ⟨by show -(b : Int) ≤ max x 0; omega, by show max x 0 ≤ 9223372036854775807; omega⟩, a8⟩

theorem Inv.broken {b : Nat} {D : DS} (h : Inv b D) : Inv b { D with next := 0 } := by
  obtain ⟨a1, a2, a3, a4, a5, a6, a7, a8⟩ := h
  exact ⟨a1, a2, a3, a4, a5, a6, ⟨by show -(b : Int) ≤ 0; omega, by show (0 : Int) ≤ 9223372036854775807; omega⟩, a8⟩

/-- What a call makes of a device. -/
def DTo (B : Nat) (w : World) (g gs : Nat) (hv : Value) (D' : DS) (w' : World) : Prop :=
  ∃ hv', Dev B w' g gs hv' D' ∧ Fr (foot g gs hv) w w' ∧ ∀ k, hv'.ownBlock = some k → hv.ownBlock = some k ∨ w.heap.size ≤ k

section
variable {B : Nat} {w w' : World} {g gs : Nat} {hv : Value} {D : DS}

theorem DTo.same (d : Dev B w g gs hv D) : DTo B w g gs hv D w := ⟨hv, d, Fr.refl _ _, fun _ e => Or.inl e⟩
theorem DTo.of (d : Dev B w' g gs hv D) (f : Fr (foot g gs hv) w w') : DTo B w g gs hv D w' := ⟨hv, d, f, fun _ e => Or.inl e⟩
theorem DTo.nil (d : Dev B w' g gs (.slice none 0 0) D) (f : Fr (foot g gs hv) w w') : DTo B w g gs hv D w' := ⟨_, d, f, fun k e => by simp [Value.ownBlock] at e⟩
end

/-- Write of a device, whatever it is told. -/
theorem write_one (b : Nat) (D : DS) (hi : Inv b D) (hb : b ≤ 10000000) (x : Int) (s : ByteArray) :
    ∃ (E : Int) (D' : DS), Inv (b + 1) D' ∧ ((¬ (0 ≤ x ∧ x < (D.n : Int)) ∧ E = 40 ∧ D' = D) ∨ ∃ i : Nat, x = (i : Int) ∧ i < D.n ∧ ((s.size ≠ 512 ∧ E = 2 ∧ D' = D) ∨ (s.size = 512 ∧ D.left = 0 ∧ E = 41 ∧ D' = D) ∨ (s.size = 512 ∧ D.left ≠ 0 ∧ D.next = 1 ∧ E = 42 ∧ D' = { D with next := 0 }) ∨ (s.size = 512 ∧ D.left ≠ 0 ∧ D.next ≠ 1 ∧ E = 0 ∧ D' = D.wrote i s))) ∧
      ∀ B w g gs hv, Dev B w g gs hv D → B ≤ w.heap.size → Calls Tryz.prog 74 #[.pointer (some ⟨g, 0, none⟩), .int .i64 x, .string s] w fun e w' => e = .returned (.int .i64 E) ∧ DTo B w g gs hv D' w' := by
  have h1 := hi.mono (Nat.le_succ b)
  obtain ⟨o0, o1⟩ := hi.ops
  obtain ⟨l0, l1⟩ := hi.left
  obtain ⟨n0, n1⟩ := hi.next
  have len := hi.len
  by_cases hx : 0 ≤ x ∧ x < (D.n : Int)
  · obtain ⟨i, rfl⟩ : ∃ i : Nat, x = (i : Int) := ⟨x.toNat, by omega⟩
    have hin : i < D.n := by omega
    by_cases hs : s.size = 512
    · by_cases hl : D.left = 0
      · refine ⟨41, D, h1, Or.inr ⟨i, rfl, hin, Or.inr (Or.inl ⟨hs, hl, rfl, rfl⟩)⟩, fun B w g gs hv d _ => (write_down d i hin s hs hl).mono ?_⟩
        rintro e w' ⟨rfl, rfl⟩
        exact ⟨rfl, .same d⟩
      · by_cases hn : D.next = 1
        · refine ⟨42, _, hi.broken.mono (Nat.le_succ b), Or.inr ⟨i, rfl, hin, Or.inr (Or.inr (Or.inl ⟨hs, hl, hn, rfl, rfl⟩))⟩, fun B w g gs hv d _ => (write_broken d i hin s hs hl hn).mono ?_⟩
          rintro e w' ⟨rfl, d', f⟩
          exact ⟨rfl, .of d' f⟩
        · refine ⟨0, _, hi.wrote i s hin hs, Or.inr ⟨i, rfl, hin, Or.inr (Or.inr (Or.inr ⟨hs, hl, hn, rfl, rfl⟩))⟩, fun B w g gs hv d hB => (write_ok d i hin s hs hl hn hB (by omega) (by omega) (by omega) (by omega)).mono ?_⟩
          rintro e w' ⟨rfl, hv', d', f, gr⟩
          exact ⟨rfl, hv', d', f, gr⟩
    · refine ⟨2, D, h1, Or.inr ⟨i, rfl, hin, Or.inl ⟨hs, rfl, rfl⟩⟩, fun B w g gs hv d _ => (write_long d i hin s hs).mono ?_⟩
      rintro e w' ⟨rfl, rfl⟩
      exact ⟨rfl, .same d⟩
  · refine ⟨40, D, h1, Or.inl ⟨hx, rfl, rfl⟩, fun B w g gs hv d _ => (write_place d x s hx).mono ?_⟩
    rintro e w' ⟨rfl, rfl⟩
    exact ⟨rfl, .same d⟩

/-- Flush of a device. -/
theorem flush_one (b : Nat) (D : DS) (hi : Inv b D) (hb : b ≤ 10000000) :
    ∃ (E : Int) (D' : DS), Inv (b + 1) D' ∧ ((D.left = 0 ∧ E = 41 ∧ D' = D) ∨ (D.left ≠ 0 ∧ E = 0 ∧ D' = D.flushed)) ∧
      ∀ B w g gs hv, Dev B w g gs hv D → Calls Tryz.prog 49 #[.pointer (some ⟨g, 0, none⟩)] w fun e w' => e = .returned (.int .i64 E) ∧ DTo B w g gs hv D' w' := by
  obtain ⟨o0, o1⟩ := hi.ops
  obtain ⟨l0, l1⟩ := hi.left
  have len := hi.len
  by_cases hl : D.left = 0
  · refine ⟨41, D, hi.mono (Nat.le_succ b), Or.inl ⟨hl, rfl, rfl⟩, fun B w g gs hv d => (flush_down d hl).mono ?_⟩
    rintro e w' ⟨rfl, rfl⟩
    exact ⟨rfl, .same d⟩
  · refine ⟨0, _, hi.flushed, Or.inr ⟨hl, rfl, rfl⟩, fun B w g gs hv d => (flush_ok d hl (fun p hp => (hi.held p hp).1) (by omega) (by omega) (by omega)).mono ?_⟩
    rintro e w' ⟨rfl, d', f⟩
    exact ⟨rfl, .nil d' f⟩

/-- Read of a device. -/
theorem read_one (b : Nat) (D : DS) (hi : Inv b D) (x : Int) :
    ∃ (T : ByteArray) (E : Int), ((¬ (0 ≤ x ∧ x < (D.n : Int)) ∧ T = ⟨#[]⟩ ∧ E = 40) ∨ ∃ i : Nat, x = (i : Int) ∧ i < D.n ∧ ((D.left = 0 ∧ T = ⟨#[]⟩ ∧ E = 41) ∨ (D.left ≠ 0 ∧ T = D.seen i ∧ E = 0))) ∧
      ∀ B w g gs hv, Dev B w g gs hv D → Calls Tryz.prog 146 #[.pointer (some ⟨g, 0, none⟩), .int .i64 x] w fun e w' => e = .returned (.tuple #[.string T, .int .i64 E]) ∧ Below w.heap.size w w' := by
  by_cases hx : 0 ≤ x ∧ x < (D.n : Int)
  · obtain ⟨i, rfl⟩ : ∃ i : Nat, x = (i : Int) := ⟨x.toNat, by omega⟩
    have hin : i < D.n := by omega
    by_cases hl : D.left = 0
    · refine ⟨_, 41, Or.inr ⟨i, rfl, hin, Or.inl ⟨hl, rfl, rfl⟩⟩, fun B w g gs hv d => (read_down d i hin hl).mono ?_⟩
      rintro e w' ⟨rfl, rfl⟩
      exact ⟨rfl, Below.refl _ _⟩
    · exact ⟨_, 0, Or.inr ⟨i, rfl, hin, Or.inr ⟨hl, rfl, rfl⟩⟩, fun B w g gs hv d => read_ok d i hin hl _ rfl (hi.seenSize i hin)⟩
  · refine ⟨_, 40, Or.inl ⟨hx, rfl, rfl⟩, fun B w g gs hv d => (read_place d x hx).mono ?_⟩
    rintro e w' ⟨rfl, rfl⟩
    exact ⟨rfl, Below.refl _ _⟩

theorem tmod_mod (k : Int) (n : Nat) (hn : 1 ≤ n) : ∃ r : Nat, r < n ∧ (k.tmod n + n).tmod n = (r : Int) ∧ -(n : Int) < k.tmod n ∧ k.tmod n < n := by
  have h1 : k.tmod n < n := Int.tmod_lt_of_pos _ (by omega)
  have h2 : -(n : Int) < k.tmod n := by
    have := Int.lt_tmod_of_pos k (b := (n : Int)) (by omega)
    exact this
  refine ⟨((k.tmod n + n).tmod n).toNat, ?_, ?_, h2, h1⟩
  · have h3 : (k.tmod n + n).tmod n < n := Int.tmod_lt_of_pos _ (by omega)
    have h4 : 0 ≤ (k.tmod n + n).tmod n := Int.tmod_nonneg _ (by omega)
    omega
  · have h4 : 0 ≤ (k.tmod n + n).tmod n := Int.tmod_nonneg _ (by omega)
    omega

set_option maxHeartbeats 400000 in
theorem mod_any (k : Int) (n : Nat) (w : World) (_h0 : -9223372036854775808 ≤ k) (_h1 : k ≤ 9223372036854775807) (hn : 1 ≤ n) (hn2 : n ≤ 1000) :
    Calls Tryz.prog 8 #[.int .i64 k, .int .i64 (n : Int)] w fun e w' => ∃ r : Nat, e = .returned (.int .i64 (r : Int)) ∧ r < n ∧ w' = w := by
  obtain ⟨r, hr, he, b1, b2⟩ := tmod_mod k n hn
  have hz : ((n : Int) == 0) = false := by rw [beq_eq_false_iff_ne]; omega
  have hm1 : ((n : Int) == -1) = false := by rw [beq_eq_false_iff_ne]; omega
  have hlt : decide ((n : Int) < 1) = false := by simp; omega
  generalize hq : k.tmod (n : Int) = q at *
  go_enter Tryz.func8, Tryz.ntmps8
  go_wp2_with fail
  go_ret
  exact ⟨r, rfl, hr, rfl⟩

/-- Write of a whole sector that there is. -/
theorem write_blk (b : Nat) (D : DS) (hi : Inv b D) (hb : b ≤ 10000000) (i : Nat) (hin : i < D.n) (s : ByteArray) (hs : s.size = 512) :
    ∃ (E : Int) (D' : DS), Inv (b + 1) D' ∧ ((D.left = 0 ∧ E = 41 ∧ D' = D) ∨ (D.left ≠ 0 ∧ D.next = 1 ∧ E = 42 ∧ D' = { D with next := 0 }) ∨ (D.left ≠ 0 ∧ D.next ≠ 1 ∧ E = 0 ∧ D' = D.wrote i s)) ∧
      ∀ B w g gs hv, Dev B w g gs hv D → B ≤ w.heap.size → Calls Tryz.prog 74 #[.pointer (some ⟨g, 0, none⟩), .int .i64 (i : Int), .string s] w fun e w' => e = .returned (.int .i64 E) ∧ DTo B w g gs hv D' w' := by
  obtain ⟨E, D', h1, hc, c⟩ := write_one b D hi hb (i : Int) s
  refine ⟨E, D', h1, ?_, c⟩
  rcases hc with ⟨hx, _⟩ | ⟨j, hj, _, hc⟩
  · exact absurd ⟨by omega, by omega⟩ hx
  · have : i = j := by omega
    subst this
    rcases hc with ⟨h, _⟩ | ⟨_, h⟩ | ⟨_, h⟩ | ⟨_, h⟩
    · exact absurd hs h
    · exact Or.inl h
    · exact Or.inr (Or.inl h)
    · exact Or.inr (Or.inr h)

/-- A device, beside all that was there. -/
structure One (W w : World) (g gs : Nat) (hv : Value) (D : DS) : Prop where
  dev : Dev W.heap.size w g gs hv D
  bel : Below W.heap.size W w

section
variable {W w w' : World} {g gs : Nat} {hv : Value} {D D' : DS}
theorem One.below (t : One W w g gs hv D) (hb : Below w.heap.size w w') : One W w' g gs hv D := ⟨t.dev.below hb, below2 t.bel hb⟩
theorem One.drew (t : One W w g gs hv D) : One W w.drew g gs hv D := ⟨t.dev.kept (fun _ _ => rfl), t.bel.drew⟩

/-- A block that is not the device's. -/
def Els (w : World) (g gs : Nat) (hv : Value) (k : Nat) : Prop := k < w.heap.size ∧ ¬ foot g gs hv k

theorem One.step (t : One W w g gs hv D) (d : DTo W.heap.size w g gs hv D' w') : ∃ hv', One W w' g gs hv' D' ∧ ∀ k, Els w g gs hv k → Els w' g gs hv' k ∧ w'.heap[k]? = w.heap[k]? := by
  obtain ⟨hv', d', f, gr⟩ := d
  refine ⟨hv', ⟨d', f.belowD t.bel t.dev (Nat.le_refl _)⟩, fun k e => ⟨⟨Nat.lt_of_lt_of_le e.1 f.size, fun p => ?_⟩, f.block k e.1 e.2⟩⟩
  rcases p with r | r | r
  · exact e.2 (Or.inl r)
  · exact e.2 (Or.inr (Or.inl r))
  · rcases gr k r with q | q
    · exact e.2 (Or.inr (Or.inr q))
    · have := e.1
      omega

theorem One.fresh (t : One W w g gs hv D) (o : Obj) : One W (w.alloc o) g gs hv D ∧ Els (w.alloc o) g gs hv w.heap.size :=
  ⟨t.below (below_alloc1 w o), by simp, fun p => by have := t.dev.lt _ p; omega⟩

theorem Els.below {k : Nat} (e : Els w g gs hv k) (hb : Below w.heap.size w w') : Els w' g gs hv k ∧ w'.heap[k]? = w.heap[k]? := ⟨⟨Nat.lt_of_lt_of_le e.1 hb.size, e.2⟩, hb.block k e.1⟩

/-- A store beside the device. -/
theorem One.store (t : One W w g gs hv D) {k : Nat} (e : Els w g gs hv k) (hk : W.heap.size ≤ k) (o : Nat) (u : Value) : One W (w.setCell ⟨k, o, none⟩ u) g gs hv D :=
  ⟨t.dev.kept (fun j hj => Below.heap_setCell _ _ _ _ (by rintro rfl; exact e.2 hj)), t.bel.setCell hk u⟩
theorem Els.store {k : Nat} (e : Els w g gs hv k) (a : Addr) (u : Value) : Els (w.setCell a u) g gs hv k := ⟨by simpa using e.1, e.2⟩
end

end Go.Proofs.YtkjioabhdglkpaaGreat

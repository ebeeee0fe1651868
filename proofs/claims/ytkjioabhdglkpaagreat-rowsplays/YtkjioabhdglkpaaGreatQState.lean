/- A pool as mathematics; Pin, whatever the state. -/
import Derived.Test.YtkjioabhdglkpaaGreatQPins
namespace Go.Proofs.YtkjioabhdglkpaaGreat
open Go.RowKit

/-- What a pool has: its frames in the order of their use. -/
structure St where
  n : Nat
  l : List Fm
  rd : Nat
  wr : Nat
  D : DS

/-- The places of those that are not pinned. -/
def uAt : List Fm → Nat → List Nat
  | [], _ => []
  | f :: l, k => if f.pins = 0 then k :: uAt l (k + 1) else uAt l (k + 1)

def readS (S : St) (i : Nat) : (ByteArray × Int) × St :=
  if S.D.left = 0 then ((⟨#[]⟩, 41), S) else ((S.D.seen i, 0), { S with rd := S.rd + 1, l := S.l ++ [⟨i, S.D.seen i, 1, false⟩] })

/-- A frame is given up. -/
def giveS (S : St) (i : Nat) (f : Fm) : Int × St :=
  if wrE S.D f = 0 then (0, { S with l := S.l.eraseIdx i, wr := S.wr + wrN S.D f, D := wrD S.D f }) else (wrE S.D f, { S with D := wrD S.D f })

def takeS (S : St) : Int × St :=
  if S.l.length = S.n then
    match uAt S.l 0 with
    | [] => (70, S)
    | i :: _ => match S.l[i]? with
      | none => (70, S)
      | some f => giveS S i f
  else (0, S)

def pinS (S : St) (a : Int) : (ByteArray × Int) × St :=
  if 0 ≤ a ∧ a < (S.D.n : Int) then
    match idx S.l a with
    | some i => match S.l[i]? with
      | none => ((⟨#[]⟩, 0), S)
      | some f => ((f.s, 0), { S with l := S.l.eraseIdx i ++ [{ f with pins := f.pins + 1 }] })
    | none => if (takeS S).1 = 0 then readS (takeS S).2 a.toNat else ((⟨#[]⟩, (takeS S).1), (takeS S).2)
  else ((⟨#[]⟩, 40), S)

/-- What holds of a pool behind b calls. -/
structure OkS (b : Nat) (S : St) : Prop where
  inv : Inv b S.D
  pg : ∀ f ∈ S.l, f.pg < S.D.n ∧ f.s.size = 512 ∧ f.pins ≤ b
  uniq : (S.l.map (·.pg)).Nodup
  n : 1 ≤ S.n ∧ S.n ≤ 64
  len : S.l.length ≤ S.n
  rd : S.rd ≤ b
  wr : S.wr ≤ b

theorem OkS.mono {b c : Nat} {S : St} (h : OkS b S) (hc : b ≤ c) : OkS c S :=
  ⟨h.inv.mono hc, fun f hf => ⟨(h.pg f hf).1, (h.pg f hf).2.1, Nat.le_trans (h.pg f hf).2.2 hc⟩, h.uniq, h.n, h.len, Nat.le_trans h.rd hc, Nat.le_trans h.wr hc⟩

theorem mem_erase {α : Type} {l : List α} {i : Nat} {y : α} (h : y ∈ l.eraseIdx i) : y ∈ l := List.mem_of_mem_eraseIdx h

theorem OkS.give {b : Nat} {S : St} (h : OkS b S) {i : Nat} {f : Fm} (hi : S.l[i]? = some f) : OkS (b + 1) (giveS S i f).2 := by
  obtain ⟨p1, p2, p3⟩ := h.pg f (List.mem_of_getElem? hi)
  have hI := wr_inv (f := f) h.inv p1 p2
  have hN : wrN S.D f ≤ 1 := by unfold wrN; split <;> omega
  unfold giveS
  split
  · refine ⟨hI, fun g hg => ?_, ?_, h.n, ?_, Nat.le_succ_of_le h.rd, ?_⟩
    · obtain ⟨q1, q2, q3⟩ := h.pg g (mem_erase hg)
      exact ⟨by rw [wrD_n]; exact q1, q2, by omega⟩
    · show ((S.l.eraseIdx i).map (·.pg)).Nodup
      exact List.Nodup.sublist ((List.eraseIdx_sublist S.l i).map _) h.uniq
    · show (S.l.eraseIdx i).length ≤ S.n
      exact Nat.le_trans (List.length_eraseIdx_le S.l i) h.len
    · show S.wr + wrN S.D f ≤ b + 1
      have := h.wr
      omega
  · exact ⟨hI, fun g hg => by obtain ⟨q1, q2, q3⟩ := h.pg g hg; exact ⟨by rw [wrD_n]; exact q1, q2, by omega⟩, h.uniq, h.n, h.len, Nat.le_succ_of_le h.rd, Nat.le_succ_of_le h.wr⟩

theorem uAt_get (l : List Fm) : ∀ (k m i : Nat), (uAt l k)[m]? = some i → k ≤ i ∧ ∃ f, l[i - k]? = some f ∧ f.pins = 0 := by
  induction l with
  | nil => intro k m i h; simp [uAt] at h
  | cons f l ih =>
    intro k m i h
    unfold uAt at h
    split at h
    · rename_i hp
      cases m with
      | zero => simp at h; subst h; exact ⟨Nat.le_refl _, f, by simp, hp⟩
      | succ m =>
        simp at h
        obtain ⟨h1, g, h2, h3⟩ := ih _ _ _ h
        refine ⟨by omega, g, ?_, h3⟩
        rw [show i - k = (i - (k + 1)) + 1 by omega]
        simpa using h2
    · obtain ⟨h1, g, h2, h3⟩ := ih _ _ _ h
      refine ⟨by omega, g, ?_, h3⟩
      rw [show i - k = (i - (k + 1)) + 1 by omega]
      simpa using h2

/-- The frames that are not pinned, in memory and by their places. -/
theorem unL_get (L : List (Nat × Fm)) : ∀ (k m : Nat), ((unL L)[m]? = none ∧ (uAt (frs L) k)[m]? = none) ∨ ∃ i y, (unL L)[m]? = some y ∧ (uAt (frs L) k)[m]? = some (k + i) ∧ L[i]? = some y := by
  induction L with
  | nil => intro k m; exact Or.inl ⟨by simp [unL], by simp [frs, uAt]⟩
  | cons y L ih =>
    intro k m
    by_cases hp : y.2.pins = 0
    · have e1 : unL (y :: L) = y :: unL L := by simp [unL, hp]
      have e2 : uAt (frs (y :: L)) k = k :: uAt (frs L) (k + 1) := by
        show uAt (y.2 :: frs L) k = _
        conv => lhs; unfold uAt
        rw [if_pos hp]
      rw [e1, e2]
      cases m with
      | zero => exact Or.inr ⟨0, y, rfl, rfl, rfl⟩
      | succ m =>
        rcases ih (k + 1) m with ⟨a, b⟩ | ⟨i, z, a, b, c⟩
        · exact Or.inl ⟨by simpa using a, by simpa using b⟩
        · exact Or.inr ⟨i + 1, z, by simpa using a, by rw [List.getElem?_cons_succ, b]; congr 1; omega, by simpa using c⟩
    · have e1 : unL (y :: L) = unL L := by simp [unL, hp]
      have e2 : uAt (frs (y :: L)) k = uAt (frs L) (k + 1) := by
        show uAt (y.2 :: frs L) k = _
        conv => lhs; unfold uAt
        rw [if_neg hp]
      rw [e1, e2]
      rcases ih (k + 1) m with ⟨a, b⟩ | ⟨i, z, a, b, c⟩
      · exact Or.inl ⟨a, b⟩
      · exact Or.inr ⟨i + 1, z, a, by rw [b]; congr 1; omega, by simpa using c⟩

theorem OkS.take {b : Nat} {S : St} (h : OkS b S) : OkS (b + 1) (takeS S).2 := by
  unfold takeS
  split
  · split
    · exact h.mono (Nat.le_succ _)
    · split
      · exact h.mono (Nat.le_succ _)
      · rename_i hf; exact h.give hf
  · exact h.mono (Nat.le_succ _)

theorem giveS_D (S : St) (i : Nat) (f : Fm) : (giveS S i f).2.D.n = S.D.n := by
  unfold giveS; split <;> exact wrD_n _ _
theorem takeS_D (S : St) : (takeS S).2.D.n = S.D.n := by
  unfold takeS
  split
  · split
    · rfl
    · split
      · rfl
      · exact giveS_D _ _ _
  · rfl

/-- Behind a take that is fine there is room, and no page is held that was not. -/
theorem takeS_ok {b : Nat} {S : St} (h : OkS b S) (h0 : (takeS S).1 = 0) : (takeS S).2.l.length < (takeS S).2.n ∧ ∀ f ∈ (takeS S).2.l, f ∈ S.l := by
  unfold takeS at h0 ⊢
  split at h0
  · rename_i hl
    rw [if_pos hl]
    cases hu : uAt S.l 0 with
    | nil => rw [hu] at h0; simp at h0
    | cons i r =>
      rw [hu] at h0
      simp only at h0 ⊢
      cases hf : S.l[i]? with
      | none => rw [hf] at h0; simp at h0
      | some f =>
        rw [hf] at h0
        simp only at h0 ⊢
        have hlt : i < S.l.length := (List.getElem?_eq_some_iff.1 hf).1
        unfold giveS at h0 ⊢
        by_cases he : wrE S.D f = 0
        · rw [if_pos he]
          refine ⟨?_, fun g hg => mem_erase hg⟩
          show (S.l.eraseIdx i).length < S.n
          rw [List.length_eraseIdx_of_lt hlt]
          omega
        · rw [if_neg he] at h0; exact absurd h0 he
  · rename_i hl
    rw [if_neg hl]
    have := h.len
    exact ⟨by show S.l.length < S.n; omega, fun f hf => hf⟩

theorem nodup_used {l : List Fm} {i : Nat} {f g : Fm} (hi : l[i]? = some f) (hg : g.pg = f.pg) (hn : (l.map (·.pg)).Nodup) : ((l.eraseIdx i ++ [g]).map (·.pg)).Nodup := by
  have hp : (l.eraseIdx i ++ [f]).Perm l := by
    have hlt : i < l.length := (List.getElem?_eq_some_iff.1 hi).1
    have e : l[i] = f := by rw [List.getElem?_eq_getElem hlt] at hi; exact Option.some.inj hi
    have e1 : l = l.take i ++ f :: l.drop (i + 1) := by
      rw [← e, ← List.drop_eq_getElem_cons hlt, List.take_append_drop]
    have e2 : l.eraseIdx i = l.take i ++ l.drop (i + 1) := List.eraseIdx_eq_take_drop_succ l i
    rw [e2]
    conv => rhs; rw [e1]
    rw [List.append_assoc]
    exact List.Perm.append_left _ (List.perm_append_comm (l₁ := l.drop (i + 1)) (l₂ := [f]))
  have e : (l.eraseIdx i ++ [g]).map (·.pg) = (l.eraseIdx i ++ [f]).map (·.pg) := by simp [hg]
  rw [e]
  exact (hp.map _).nodup_iff.2 hn

theorem OkS.used {b : Nat} {S : St} (h : OkS b S) {i : Nat} {f g : Fm} (hi : S.l[i]? = some f) (hg : g.pg = f.pg) (hs : g.s.size = 512) (hp : g.pins ≤ f.pins + 1) : OkS (b + 1) { S with l := S.l.eraseIdx i ++ [g] } := by
  have hf := h.pg f (List.mem_of_getElem? hi)
  have hlt : i < S.l.length := (List.getElem?_eq_some_iff.1 hi).1
  refine ⟨h.inv.mono (Nat.le_succ _), fun z hz => ?_, nodup_used hi hg h.uniq, h.n, ?_, Nat.le_succ_of_le h.rd, Nat.le_succ_of_le h.wr⟩
  · rcases List.mem_append.1 hz with q | q
    · obtain ⟨q1, q2, q3⟩ := h.pg z (mem_erase q)
      exact ⟨q1, q2, by omega⟩
    · rw [List.mem_singleton] at q
      subst q
      refine ⟨?_, hs, by omega⟩
      rw [hg]; exact hf.1
  · show (S.l.eraseIdx i ++ [g]).length ≤ S.n
    rw [List.length_append, List.length_eraseIdx_of_lt hlt]
    have := h.len
    simp
    omega

theorem OkS.read {b : Nat} {S : St} (h : OkS b S) (i : Nat) (hi : i < S.D.n) (hr : S.l.length < S.n) (hno : ∀ f ∈ S.l, f.pg ≠ i) : OkS (b + 1) (readS S i).2 := by
  unfold readS
  split
  · exact h.mono (Nat.le_succ _)
  · refine ⟨h.inv.mono (Nat.le_succ _), fun f hf => ?_, ?_, h.n, ?_, Nat.succ_le_succ h.rd, Nat.le_succ_of_le h.wr⟩
    · rcases List.mem_append.1 hf with q | q
      · obtain ⟨q1, q2, q3⟩ := h.pg f q
        exact ⟨q1, q2, by omega⟩
      · rw [List.mem_singleton] at q
        subst q
        exact ⟨hi, h.inv.seenSize i hi, by show 1 ≤ b + 1; omega⟩
    · show ((S.l ++ [(⟨i, S.D.seen i, 1, false⟩ : Fm)]).map (·.pg)).Nodup
      rw [List.map_append]
      refine List.nodup_append.2 ⟨h.uniq, by simp, ?_⟩
      intro a ha c hc e
      simp at hc
      obtain ⟨f, hf, rfl⟩ := List.mem_map.1 ha
      exact hno f hf (e.trans hc)
    · show (S.l ++ [(⟨i, S.D.seen i, 1, false⟩ : Fm)]).length ≤ S.n
      simp
      omega

theorem OkS.pin {b : Nat} {S : St} (h : OkS b S) (a : Int) : OkS (b + 2) (pinS S a).2 := by
  unfold pinS
  split
  · rename_i ha
    cases hx : idx S.l a with
    | some i =>
      simp only
      cases hf : S.l[i]? with
      | none => exact h.mono (by omega)
      | some f => exact (h.used (g := { f with pins := f.pins + 1 }) hf rfl (h.pg f (List.mem_of_getElem? hf)).2.1 (Nat.le_refl _)).mono (by omega)
    | none =>
      simp only
      split
      · rename_i h0
        obtain ⟨r1, r2⟩ := takeS_ok h h0
        refine h.take.read a.toNat (by rw [takeS_D]; omega) r1 (fun f hf e => ?_)
        obtain ⟨j, hj⟩ := List.getElem?_of_mem (r2 f hf)
        exact idx_none hx j f hj (by omega)
      · exact h.take.mono (by omega)
  · exact h.mono (by omega)

end Go.Proofs.YtkjioabhdglkpaaGreat

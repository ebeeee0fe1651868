/- A device that is fine; pages that are looked at one behind the other. -/
import Derived.Test.YtkjioabhdglkpaaGreatQWakes
namespace Go.Proofs.YtkjioabhdglkpaaGreat
open Go.RowKit

def fine (D : DS) : Prop := D.left < 0 ∧ D.next ≤ 0

theorem wrE_fine {D : DS} (h : fine D) (f : Fm) : wrE D f = 0 := by
  unfold wrE
  split
  · rw [if_neg (by have := h.1; omega), if_neg (by have := h.2; omega)]
  · rfl
theorem wrD_fine {D : DS} (h : fine D) (f : Fm) : fine (wrD D f) := by
  unfold wrD
  split
  · rw [if_neg (by have := h.1; omega), if_neg (by have := h.2; omega)]
    exact ⟨by show D.left - 1 < 0; have := h.1; omega, by show D.next - 1 ≤ 0; have := h.2; omega⟩
  · exact h
theorem wrD_clean {D : DS} {f : Fm} (h : f.dirty = false) : wrD D f = D ∧ wrE D f = 0 ∧ wrN D f = 0 := by
  refine ⟨?_, ?_, ?_⟩
  · unfold wrD; rw [if_neg (by rw [h]; decide)]
  · unfold wrE; rw [if_neg (by rw [h]; decide)]
  · unfold wrN; rw [if_neg (by rw [h]; rintro ⟨q, _⟩; cases q)]

theorem idx_last {A : List Fm} {g : Fm} {k : Int} (hno : ∀ f ∈ A, (f.pg : Int) ≠ k) (hg : (g.pg : Int) = k) : idx (A ++ [g]) k = some A.length := by
  unfold idx
  rw [List.findIdx?_eq_some_iff_getElem]
  refine ⟨by simp, by simp [hg], fun j hj => ?_⟩
  rw [List.getElem_append_left hj]
  simpa using hno _ (List.getElem_mem hj)

theorem unpin_last {S : St} {A : List Fm} {g : Fm} {k : Int} {m : Nat} (hl : S.l = A ++ [g]) (hno : ∀ f ∈ A, (f.pg : Int) ≠ k) (hg : (g.pg : Int) = k) (hp : g.pins = m + 1) :
    unpinS S k = (0, { S with l := A ++ [{ g with pins := m }] }) := by
  unfold unpinS
  rw [hl, idx_last hno hg]
  simp only
  rw [show (A ++ [g])[A.length]? = some g by simp]
  simp only
  rw [if_neg (by omega), show (A ++ [g]).eraseIdx A.length = A by rw [List.eraseIdx_append_of_length_le (Nat.le_refl _)]; simp, show g.pins - 1 = m by omega]

theorem set_last {S : St} {A : List Fm} {g : Fm} {k : Int} {s : ByteArray} (hl : S.l = A ++ [g]) (hno : ∀ f ∈ A, (f.pg : Int) ≠ k) (hg : (g.pg : Int) = k) (hp : g.pins ≠ 0) (hs : s.size = 512) :
    setS S k s = (0, { S with l := A ++ [{ g with s := s, dirty := true }] }) := by
  unfold setS
  rw [hl, idx_last hno hg]
  simp only
  rw [show (A ++ [g])[A.length]? = some g by simp]
  simp only
  rw [if_neg hp, if_neg (fun q => q hs), show (A ++ [g]).eraseIdx A.length = A by rw [List.eraseIdx_append_of_length_le (Nat.le_refl _)]; simp]

/-- Behind one is struck no other of that page is there. -/
theorem erase_no {l : List Fm} {i : Nat} {f : Fm} (hi : l[i]? = some f) (hn : (l.map (·.pg)).Nodup) : ∀ g ∈ l.eraseIdx i, g.pg ≠ f.pg := by
  intro g hg e
  have hp := nodup_used (g := f) hi rfl hn
  rw [List.map_append] at hp
  exact (List.nodup_append.1 hp).2.2 g.pg (List.mem_map.2 ⟨g, hg, rfl⟩) f.pg (by simp) e

theorem erase_filter {l : List Fm} {i : Nat} {f : Fm} (hi : l[i]? = some f) (hn : (l.map (·.pg)).Nodup) : (l.eraseIdx i).map (·.pg) = (l.map (·.pg)).filter (fun k => !(k == f.pg)) := by
  have hlt : i < l.length := (List.getElem?_eq_some_iff.1 hi).1
  have e : l[i] = f := by rw [List.getElem?_eq_getElem hlt] at hi; exact Option.some.inj hi
  have e1 : l = l.take i ++ f :: l.drop (i + 1) := by rw [← e, ← List.drop_eq_getElem_cons hlt, List.take_append_drop]
  have e2 : l.eraseIdx i = l.take i ++ l.drop (i + 1) := List.eraseIdx_eq_take_drop_succ l i
  have hno := erase_no hi hn
  rw [e2] at hno ⊢
  conv => rhs; rw [e1]
  rw [List.map_append, List.map_append, List.map_cons, List.filter_append, List.filter_cons, if_neg (by simp)]
  congr 1
  · exact (List.filter_eq_self.2 (fun k hk => by
      obtain ⟨g, hg, rfl⟩ := List.mem_map.1 hk
      simpa using hno g (List.mem_append_left _ hg))).symm
  · exact (List.filter_eq_self.2 (fun k hk => by
      obtain ⟨g, hg, rfl⟩ := List.mem_map.1 hk
      simpa using hno g (List.mem_append_right _ hg))).symm

/-- A pool whose frames are clean and not pinned; T: its pages, the one that was looked at last first. -/
structure Old (n : Nat) (D : DS) (S : St) (T : List Nat) : Prop where
  n : S.n = n
  D : S.D = D
  fr : ∀ f ∈ S.l, f.pins = 0 ∧ f.dirty = false
  T : T = (S.l.map (·.pg)).reverse

def lookT (n k : Nat) (T : List Nat) : List Nat := k :: (T.filter (fun j => !(j == k))).take (n - 1)

theorem old_step {b n : Nat} {D : DS} {S : St} {T : List Nat} (o : Old n D S T) (h : OkS b S) (hf : fine D) (k : Nat) (hk : k < D.n) :
    (pinS S (k : Int)).1.2 = 0 ∧ (unpinS (pinS S (k : Int)).2 (k : Int)).1 = 0 ∧ Old n D (unpinS (pinS S (k : Int)).2 (k : Int)).2 (lookT n k T) := by
  have hD := o.D
  have hn := o.n
  have h1 := h.n.1
  have hlen := h.len
  -- once it is known what Pin leaves
  have fin : ∀ (A : List Fm) (g : Fm) (S1 : St), S1.l = A ++ [g] → S1.n = n → S1.D = D → (∀ f ∈ A, f.pg ≠ k ∧ f.pins = 0 ∧ f.dirty = false) → g.pg = k → g.pins = 1 → g.dirty = false → (T.filter (fun j => !(j == k))).take (n - 1) = (A.map (·.pg)).reverse →
      (unpinS S1 (k : Int)).1 = 0 ∧ Old n D (unpinS S1 (k : Int)).2 (lookT n k T) := by
    intro A g S1 hl e1 e2 hA hg1 hg2 hg3 hT
    rw [unpin_last (m := 0) hl (fun f hf => by have := (hA f hf).1; omega) (by omega) hg2]
    refine ⟨rfl, ⟨e1, e2, fun f hf => ?_, ?_⟩⟩
    · rcases List.mem_append.1 hf with q | q
      · exact (hA f q).2
      · rw [List.mem_singleton] at q
        subst q
        exact ⟨rfl, hg3⟩
    · unfold lookT
      rw [hT]
      simp [hg1]
  have hT0 := o.T
  cases hx : idx S.l (k : Int) with
  | some i =>
    obtain ⟨f, hi, hfa, _⟩ := idx_some hx
    have hpg : f.pg = k := by omega
    have e : pinS S (k : Int) = ((f.s, 0), { S with l := S.l.eraseIdx i ++ [{ f with pins := f.pins + 1 }] }) := by
      unfold pinS
      rw [if_pos ⟨by omega, by rw [hD]; omega⟩, hx]
      simp only
      rw [hi]
    rw [e]
    have hfp := o.fr f (List.mem_of_getElem? hi)
    refine ⟨rfl, fin (S.l.eraseIdx i) { f with pins := f.pins + 1 } _ rfl hn hD (fun g hg => ⟨by rw [← hpg]; exact erase_no hi h.uniq g hg, o.fr g (mem_erase hg)⟩) hpg (by show f.pins + 1 = 1; rw [hfp.1]) hfp.2 ?_⟩
    have hlt : i < S.l.length := (List.getElem?_eq_some_iff.1 hi).1
    have e3 := erase_filter hi h.uniq
    rw [hpg] at e3
    rw [hT0, List.filter_reverse, ← e3, List.take_of_length_le]
    rw [List.length_reverse, List.length_map, List.length_eraseIdx_of_lt hlt]
    omega
  | none =>
    have hno : ∀ f ∈ S.l, f.pg ≠ k := fun f hf e => by
      obtain ⟨j, hj⟩ := List.getElem?_of_mem hf
      exact idx_none hx j f hj (by omega)
    have hTf : T.filter (fun j => !(j == k)) = T := List.filter_eq_self.2 (fun j hj => by
      rw [hT0] at hj
      obtain ⟨f, hf, rfl⟩ := List.mem_map.1 (List.mem_reverse.1 hj)
      simpa using hno f hf)
    have hTl : T.length = S.l.length := by rw [hT0]; simp
    have hleft : ¬ D.left = 0 := by have := hf.1; omega
    by_cases hc : S.l.length = S.n
    · cases hS : S.l with
      | nil => rw [hS] at hc; simp at hc; omega
      | cons f0 r =>
        have hf0 := o.fr f0 (by rw [hS]; simp)
        obtain ⟨c1, c2, c3⟩ := wrD_clean (D := S.D) hf0.2
        have et : takeS S = (0, { S with l := r }) := by
          unfold takeS
          rw [if_pos hc, hS]
          unfold uAt
          rw [if_pos hf0.1]
          simp only [List.getElem?_cons_zero]
          unfold giveS
          rw [if_pos c2, c1, c3, hS]
          rfl
        have e : pinS S (k : Int) = ((S.D.seen k, 0), { S with rd := S.rd + 1, l := r ++ [⟨k, S.D.seen k, 1, false⟩] }) := by
          unfold pinS
          rw [if_pos ⟨by omega, by rw [hD]; omega⟩, hx]
          simp only
          rw [et]
          simp only [if_true, Int.toNat_natCast]
          unfold readS
          rw [if_neg (by rw [hD]; exact hleft)]
        rw [e]
        refine ⟨rfl, fin r ⟨k, S.D.seen k, 1, false⟩ _ rfl hn hD (fun g hg => ⟨hno g (by rw [hS]; simp [hg]), o.fr g (by rw [hS]; simp [hg])⟩) rfl rfl rfl ?_⟩
        rw [hTf, hT0, hS]
        rw [List.map_cons, List.reverse_cons, List.take_left']
        rw [hS] at hc
        simp at hc ⊢
        omega
    · have et : takeS S = (0, S) := by unfold takeS; rw [if_neg hc]
      have e : pinS S (k : Int) = ((S.D.seen k, 0), { S with rd := S.rd + 1, l := S.l ++ [⟨k, S.D.seen k, 1, false⟩] }) := by
        unfold pinS
        rw [if_pos ⟨by omega, by rw [hD]; omega⟩, hx]
        simp only
        rw [et]
        simp only [if_true, Int.toNat_natCast]
        unfold readS
        rw [if_neg (by rw [hD]; exact hleft)]
      rw [e]
      refine ⟨rfl, fin S.l ⟨k, S.D.seen k, 1, false⟩ _ rfl hn hD (fun g hg => ⟨hno g hg, o.fr g hg⟩) rfl rfl rfl ?_⟩
      rw [hTf, List.take_of_length_le (by omega), hT0]

theorem old_new (n : Nat) (D : DS) : Old n D ⟨n, [], 0, 0, D⟩ [] := ⟨rfl, rfl, fun f hf => (by cases hf), rfl⟩

/-- What is told of them. -/
theorem held_mem (S : St) (a : Int) : a ∈ heldS S ↔ ∃ f ∈ S.l, (f.pg : Int) = a := by
  unfold heldS sortI pgs
  rw [(List.mergeSort_perm _ _).mem_iff]
  simp
theorem held_len (S : St) : (heldS S).length = S.l.length := by
  unfold heldS
  rw [sortI_len]
  simp [pgs]
end Go.Proofs.YtkjioabhdglkpaaGreat

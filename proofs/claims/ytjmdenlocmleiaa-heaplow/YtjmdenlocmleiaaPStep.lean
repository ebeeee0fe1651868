/- The calls of page at a page of slots, in one form; what a step makes of the slots. -/
import Derived.Test.YtjmdenlocmleiaaPSlots
namespace Go.Proofs.Ytjmdenlocmleiaa
open Go.RowKit

/-- A call's answer: another page, or an error. -/
def Out (l l' : List Sl) (P : ByteArray) (E : Int) : Prop := (E = 0 ∧ P = pg l' ∧ Fine l') ∨ (E ≠ 0 ∧ P = ⟨#[]⟩ ∧ l' = l)

def insN (l : List Sl) (row : ByteArray) : List Sl := if insE l row = 0 then insL l row else l
def putN (l : List Sl) (k : Int) (row : ByteArray) : List Sl := if putE l k row = 0 then putL l k row else l
def delN (l : List Sl) (k : Int) : List Sl := if delE l k = 0 then delL l k else l

theorem Out.fine {l l' : List Sl} {P : ByteArray} {E : Int} (h : Out l l' P E) (hF : Fine l) : Fine l' := by
  rcases h with ⟨_, _, h⟩ | ⟨_, _, rfl⟩
  · exact h
  · exact hF
theorem Out.size {l l' : List Sl} {P : ByteArray} {E : Int} (h : Out l l' P E) : P.size ≤ 512 := by
  rcases h with ⟨_, rfl, h⟩ | ⟨_, rfl, _⟩
  · rw [pg_size h]; exact Nat.le_refl _
  · exact Nat.zero_le _

section
variable {l : List Sl} (hF : Fine l)

theorem ins_pg (hF : Fine l) (row : ByteArray) (hrs : row.size ≤ 1000000) : ∃ (P : ByteArray) (K E : Int), Out l (insN l row) P E ∧ insR l row = (P, K, E) ∧ ∀ w, Calls Try.prog 45 #[.string (pg l), .string row] w fun e w' => e = .returned (.tuple #[.string P, .int .i64 K, .int .i64 E]) ∧ Below w.heap.size w w' := by
  refine ⟨(insR l row).1, (insR l row).2.1, (insR l row).2.2, ?_, rfl, fun w => ins_any (pg l) l row w (by rw [pg_size hF]; omega) (rd_pg hF) hF hrs _ _ _ rfl⟩
  unfold insR insN
  by_cases h : insE l row = 0
  · rw [if_pos h, if_pos h]
    exact Or.inl ⟨rfl, rfl, ins_fine hF row h⟩
  · rw [if_neg h, if_neg h]
    exact Or.inr ⟨h, rfl, rfl⟩

theorem find_miss (hF : Fine l) (k : Int) (hk : i64ok k) (hr : rowAt l k = none) (w : World) : Calls Try.prog 47 #[.string (pg l), .int .i64 k] w fun e w' => e = .returned (.tuple #[.slice none 0 0, .int .i64 60]) ∧ Below w.heap.size w w' :=
  find_none (pg l) l k w (by rw [pg_size hF]; omega) (rd_pg hF) (by have := few hF.room; omega) hk hr

theorem put_pg (hF : Fine l) (k : Int) (hk : i64ok k) (row : ByteArray) (hrs : row.size ≤ 1000000) : ∃ (P : ByteArray) (E : Int), Out l (putN l k row) P E ∧ E = putE l k row ∧ ∀ w, Calls Try.prog 31 #[.string (pg l), .int .i64 k, .string row] w fun e w' => e = .returned (.tuple #[.string P, .int .i64 E]) ∧ Below w.heap.size w w' := by
  cases hr : rowAt l k with
  | none =>
    have hE : putE l k row = 60 := by unfold putE; rw [hr]
    refine ⟨⟨#[]⟩, 60, ?_, hE.symm, fun w => put_err (pg l) row k 60 w (Or.inr rfl) (find_miss hF k hk hr w)⟩
    unfold putN
    rw [hE]
    exact Or.inr ⟨by decide, rfl, rfl⟩
  | some r =>
    obtain ⟨h0, hx⟩ := rowAt_some hr
    obtain ⟨i, rfl⟩ : ∃ i : Nat, k = (i : Int) := ⟨k.toNat, by omega⟩
    rw [Int.toNat_natCast] at hx
    refine ⟨(putR l (i : Int) row).1, (putR l (i : Int) row).2, ?_, ?_, fun w => put_row (pg l) l i r row w (by rw [pg_size hF]; omega) (rd_pg hF) hF hrs hx _ _ rfl⟩
    · unfold putR putN
      by_cases h : putE l (i : Int) row = 0
      · rw [if_pos h, if_pos h]
        exact Or.inl ⟨rfl, rfl, put_fine hF _ row h⟩
      · rw [if_neg h, if_neg h]
        exact Or.inr ⟨h, rfl, rfl⟩
    · unfold putR
      by_cases h : putE l (i : Int) row = 0
      · rw [if_pos h, h]
      · rw [if_neg h]

theorem del_pg (hF : Fine l) (k : Int) (hk : i64ok k) : ∃ (P : ByteArray) (E : Int), Out l (delN l k) P E ∧ E = delE l k ∧ ∀ w, Calls Try.prog 32 #[.string (pg l), .int .i64 k] w fun e w' => e = .returned (.tuple #[.string P, .int .i64 E]) ∧ Below w.heap.size w w' := by
  cases hr : rowAt l k with
  | none =>
    have hE : delE l k = 60 := by unfold delE; rw [hr]
    refine ⟨⟨#[]⟩, 60, ?_, hE.symm, fun w => del_err (pg l) k 60 w (Or.inr rfl) (find_miss hF k hk hr w)⟩
    unfold delN
    rw [hE]
    exact Or.inr ⟨by decide, rfl, rfl⟩
  | some r =>
    have hE : delE l k = 0 := by unfold delE; rw [hr]
    obtain ⟨h0, hx⟩ := rowAt_some hr
    obtain ⟨i, rfl⟩ : ∃ i : Nat, k = (i : Int) := ⟨k.toNat, by omega⟩
    rw [Int.toNat_natCast] at hx
    refine ⟨pg (delL l (i : Int)), 0, ?_, hE.symm, fun w => pdel_row (pg l) l i r w (by rw [pg_size hF]; omega) (rd_pg hF) hF hx _ rfl⟩
    unfold delN
    rw [if_pos hE]
    exact Or.inl ⟨rfl, rfl, del_fine hF _⟩

theorem get_pg (hF : Fine l) (k : Int) (hk : i64ok k) (w : World) : Calls Try.prog 27 #[.string (pg l), .int .i64 k] w fun e w' => e = .returned (.tuple #[.string (rowOf (rowAt l k)), .int .i64 (delE l k)]) ∧ Below w.heap.size w w' := by
  cases hr : rowAt l k with
  | none =>
    have hE : delE l k = 60 := by unfold delE; rw [hr]
    rw [hE]
    exact get_err (pg l) k 60 w (Or.inr rfl) (find_miss hF k hk hr w)
  | some r =>
    have hE : delE l k = 0 := by unfold delE; rw [hr]
    obtain ⟨h0, hx⟩ := rowAt_some hr
    obtain ⟨i, rfl⟩ : ∃ i : Nat, k = (i : Int) := ⟨k.toNat, by omega⟩
    rw [Int.toNat_natCast] at hx
    rw [hE]
    exact get_row (pg l) l i r w (by rw [pg_size hF]; omega) (rd_pg hF) (by have := few hF.room; omega) (hF.rows r (List.mem_of_getElem? hx)) hx

theorem good_pg (hF : Fine l) (w : World) : Calls Try.prog 23 #[.string (pg l)] w fun e w' => e = .returned (.bool true) ∧ Below w.heap.size w w' :=
  good_any (pg l) w (by rw [pg_size hF]; omega) true (by rw [rd_pg hF]; rfl)
theorem slots_pg (hF : Fine l) (L : List Int) (HL : Hid (slotsF l 0 = L)) (w : World) : Calls Try.prog 24 #[.string (pg l)] w fun e w' => ∃ v, e = .returned v ∧ IRow w' w.heap.size v L ∧ Below w.heap.size w w' :=
  slots_any (pg l) l w ((read_yes (pg l) w l (by rw [pg_size hF]; omega) (rd_pg hF)).mono (by rintro e w' ⟨v, rfl, h⟩; exact ⟨v, _, rfl, h⟩)) (by have := few hF.room; omega) L HL
end

/-- A row stays where others are trimmed. -/
theorem trim_keep (l : List Sl) (i : Nat) (r : ByteArray) (h : l[i]? = some (some r)) : (trimL l)[i]? = some (some r) := by
  have hn : ∀ n, ∀ l : List Sl, l.length = n → l[i]? = some (some r) → (trimL l)[i]? = some (some r) := by
    intro n
    induction n with
    | zero => intro l hl h; rw [List.eq_nil_of_length_eq_zero hl] at h; simp at h
    | succ n ih =>
      intro l hl h
      have h0 : l ≠ [] := by intro e; rw [e] at hl; simp at hl
      have e := (List.dropLast_concat_getLast h0).symm
      generalize l.dropLast = a at e
      generalize l.getLast h0 = s at e
      subst e
      cases s with
      | none =>
        rw [trim_none]
        have hlt : i < a.length := by
          have h1 := (List.getElem?_eq_some_iff.1 h).1
          rcases Nat.lt_or_ge i a.length with q | q
          · exact q
          · have : i = a.length := by simp at h1; omega
            rw [this] at h
            simp at h
        rw [List.getElem?_append_left hlt] at h
        exact ih a (by simpa using hl) h
      | some x => rw [trim_some]; exact h
  exact hn _ l rfl h

theorem ins_keep {l : List Sl} {r : ByteArray} {i : Nat} (h : l[i]? = some (some r)) (row : ByteArray) : (insN l row)[i]? = some (some r) := by
  unfold insN
  split
  · unfold insL
    have hlt : i < l.length := (List.getElem?_eq_some_iff.1 h).1
    have hw : (withF l)[i]? = some (some r) := by
      unfold withF
      split
      · exact h
      · rw [List.getElem?_append_left hlt]; exact h
    rw [List.getElem?_set_ne, hw]
    intro e
    rw [← e, withF_first l] at hw
    cases hw
  · exact h
theorem put_keep {l : List Sl} {r : ByteArray} {i : Nat} (h : l[i]? = some (some r)) (k : Int) (hk : k ≠ (i : Int)) (row : ByteArray) : (putN l k row)[i]? = some (some r) := by
  unfold putN
  split
  · rename_i hE
    have h0 : 0 ≤ k := by
      unfold putE at hE
      split at hE
      · cases hE
      · rename_i q; exact (rowAt_some q).1
    unfold putL
    rw [List.getElem?_set_ne (by omega)]
    exact h
  · exact h
theorem del_keep {l : List Sl} {r : ByteArray} {i : Nat} (h : l[i]? = some (some r)) (k : Int) (hk : k ≠ (i : Int)) : (delN l k)[i]? = some (some r) := by
  unfold delN
  split
  · rename_i hE
    have h0 : 0 ≤ k := by
      unfold delE at hE
      split at hE
      · cases hE
      · rename_i q; exact (rowAt_some q).1
    unfold delL
    apply trim_keep
    rw [List.getElem?_set_ne (by omega)]
    exact h
  · exact h

end Go.Proofs.Ytjmdenlocmleiaa

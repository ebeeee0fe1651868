/- Plain mathematics of layer 6: slots, their bytes, and what stands in bytes. -/
import Derived.Test.YtkjioabhdglkpaaGreatBase
namespace Go.Proofs.YtkjioabhdglkpaaGreat

/-- A slot: its row, or nothing. -/
abbrev Sl := Option ByteArray

def rowOf : Sl → ByteArray
  | none => ⟨#[]⟩
  | some r => r
/-- A slot's bytes. -/
def wd : Sl → List UInt8
  | none => enc 0
  | some r => enc (r.size + 1) ++ r.data.toList
def bodyL : List Sl → List UInt8
  | [] => []
  | s :: l => wd s ++ bodyL l
/-- All rows' bytes. -/
def tot : List Sl → Nat
  | [] => 0
  | s :: l => (rowOf s).size + tot l
def room (l : List Sl) : Int := 508 - 4 * (l.length : Int) - (tot l : Int)
/-- Without what is free at the end. -/
def trimL (l : List Sl) : List Sl := (l.reverse.dropWhile (·.isNone)).reverse
/-- The lowest free slot. -/
def first : List Sl → Nat
  | [] => 0
  | none :: _ => 0
  | some _ :: l => first l + 1
def withF (l : List Sl) : List Sl := if first l < l.length then l else l ++ [none]
/-- A page's bytes. -/
def headL (l : List Sl) : List UInt8 := enc l.length ++ bodyL l
def pgL (l : List Sl) : List UInt8 := headL l ++ List.replicate (512 - (headL l).length) 0
def pg (l : List Sl) : ByteArray := ba (pgL l)

/-- What a page may have. -/
structure Fine (l : List Sl) : Prop where
  trim : trimL l = l
  room : 0 ≤ room l
  rows : ∀ r, some r ∈ l → r.size ≤ 400

theorem bodyL_append (a b : List Sl) : bodyL (a ++ b) = bodyL a ++ bodyL b := by
  induction a with
  | nil => rfl
  | cons s a ih => simp [bodyL, ih]
theorem tot_append (a b : List Sl) : tot (a ++ b) = tot a + tot b := by
  induction a with
  | nil => simp [tot]
  | cons s a ih => simp [tot, ih]; omega
theorem trim_nil : trimL [] = [] := rfl
theorem trim_none (l : List Sl) : trimL (l ++ [none]) = trimL l := by simp [trimL]
theorem trim_some (l : List Sl) (r : ByteArray) : trimL (l ++ [some r]) = l ++ [some r] := by simp [trimL]
theorem take_snoc {α : Type} (l : List α) (k : Nat) (x : α) (h : l[k]? = some x) : l.take (k + 1) = l.take k ++ [x] := by
  rw [List.take_add_one, h]; rfl
theorem trim_len (l : List Sl) : (trimL l).length ≤ l.length ∧ trimL l = l.take (trimL l).length := by
  have hn : ∀ n, ∀ l : List Sl, l.length = n → (trimL l).length ≤ l.length ∧ trimL l = l.take (trimL l).length := by
    intro n
    induction n with
    | zero => intro l hl; rw [List.eq_nil_of_length_eq_zero hl]; simp [trim_nil]
    | succ n ih =>
      intro l hl
      obtain ⟨a, s, rfl⟩ : ∃ a s, l = a ++ [s] := by
        have h0 : l ≠ [] := by intro e; rw [e] at hl; simp at hl
        exact ⟨l.dropLast, l.getLast h0, (List.dropLast_concat_getLast h0).symm⟩
      cases s with
      | none =>
        have ha : a.length = n := by simpa using hl
        obtain ⟨i1, i2⟩ := ih a ha
        rw [trim_none]
        refine ⟨by simp; omega, ?_⟩
        rw [List.take_append_of_le_length i1]
        exact i2
      | some r => rw [trim_some]; exact ⟨Nat.le_refl _, (List.take_length).symm⟩
  exact hn _ l rfl
theorem trim_idem (l : List Sl) : trimL (trimL l) = trimL l := by
  unfold trimL
  rw [List.reverse_reverse]
  congr 1
  generalize l.reverse = m
  induction m with
  | nil => rfl
  | cons s m ih =>
    by_cases h : s.isNone = true
    · simp [h]; simpa using ih
    · simp [h]
/-- What is trimmed ends with a row, or is nothing. -/
theorem trim_last (l : List Sl) (h : trimL l = l) : l = [] ∨ ∃ a r, l = a ++ [some r] := by
  by_cases h0 : l = []
  · exact Or.inl h0
  · have e := (List.dropLast_concat_getLast h0).symm
    generalize l.dropLast = a at e
    generalize l.getLast h0 = s at e
    subst e
    cases s with
    | none =>
      rw [trim_none] at h
      have := (trim_len a).1
      rw [h] at this
      simp at this
      omega
    | some r => exact Or.inr ⟨a, r, rfl⟩
theorem trim_set (l : List Sl) (k : Nat) (r : ByteArray) (h : trimL l = l) : trimL (l.set k (some r)) = l.set k (some r) := by
  rcases trim_last l h with rfl | ⟨a, r0, rfl⟩
  · rfl
  · by_cases hk : k < a.length
    · rw [List.set_append_left _ _ hk, trim_some]
    · rw [List.set_append_right _ _ (by omega)]
      cases hj : k - a.length with
      | zero => simp [trim_some]
      | succ j => simp [trim_some]
theorem tot_set (l : List Sl) (k : Nat) (s t : Sl) (h : l[k]? = some s) : tot (l.set k t) + (rowOf s).size = tot l + (rowOf t).size := by
  induction l generalizing k with
  | nil => simp at h
  | cons x l ih =>
    cases k with
    | zero => simp at h; subst h; simp [tot]; omega
    | succ k => simp at h; have := ih k h; simp [tot]; omega
theorem tot_trim (l : List Sl) : tot (trimL l) ≤ tot l := by
  have h := (trim_len l).2
  have : tot l = tot (l.take (trimL l).length) + tot (l.drop (trimL l).length) := by rw [← tot_append, List.take_append_drop]
  rw [← h] at this
  omega
theorem mem_trim {l : List Sl} {s : Sl} (h : s ∈ trimL l) : s ∈ l := by
  rw [(trim_len l).2] at h
  exact List.mem_of_mem_take h

theorem wd_len (s : Sl) (h : ∀ r, s = some r → r.size ≤ 400) : 1 ≤ (wd s).length ∧ (wd s).length ≤ 2 + (rowOf s).size := by
  cases s with
  | none => decide
  | some r =>
    have h1 := h r rfl
    have h2 := enc_mono (r.size + 1) 401 (by omega)
    have h3 : (enc 401).length = 2 := by decide
    have h4 := (enc_len (r.size + 1)).1
    have : r.data.toList.length = r.size := by simp
    simp only [wd, rowOf, List.length_append]
    omega
theorem body_len (l : List Sl) (h : ∀ r, some r ∈ l → r.size ≤ 400) : (bodyL l).length ≤ 2 * l.length + tot l := by
  induction l with
  | nil => simp [bodyL, tot]
  | cons s l ih =>
    have h1 := (wd_len s (fun r e => h r (by simp [e]))).2
    have h2 := ih (fun r e => h r (by simp [e]))
    simp [bodyL, tot]
    omega
theorem few {l : List Sl} (h : 0 ≤ room l) : l.length ≤ 127 := by unfold room at h; omega
theorem head_len (l : List Sl) (h0 : 0 ≤ room l) (h : ∀ r, some r ∈ l → r.size ≤ 400) : (headL l).length ≤ 512 := by
  have h1 := body_len l h
  have h2 := enc_mono l.length 127 (few h0)
  have h3 : (enc 127).length = 1 := by decide
  unfold room at h0
  simp [headL]
  omega
theorem pgL_len (l : List Sl) (h0 : 0 ≤ room l) (h : ∀ r, some r ∈ l → r.size ≤ 400) : (pgL l).length = 512 := by
  have := head_len l h0 h
  simp [pgL]
  omega
theorem pg_size {l : List Sl} (h : Fine l) : (pg l).size = 512 := pgL_len l h.room h.rows
theorem pg_list (l : List Sl) : (pg l).data.toList = pgL l := by simp [pg, ba]

theorem ext_list (s : ByteArray) (a e : Nat) : (s.extract a e).data.toList = (s.data.toList.drop a).take (e - a) := by
  rw [ByteArray.data_extract, Array.toList_extract]
theorem ba_ext {a b : ByteArray} (h : a.data.toList = b.data.toList) : a = b := by
  have : a.data = b.data := by
    apply Array.toList_inj.1 h
  cases a; cases b; simp at this; rw [this]

/-- The slots that stand in bytes, from a place on, and where they end. -/
def rdl (p : ByteArray) : Nat → Nat → List Sl → Nat × List Sl
  | 0, a, acc => (a, acc)
  | k + 1, a, acc =>
    if (getAt p.data.toList a).2.2 = false ∨ 401 < (getAt p.data.toList a).1 ∨ p.size + 1 < a + (getAt p.data.toList a).2.1 + (getAt p.data.toList a).1 then (a + (getAt p.data.toList a).2.1, acc)
    else if (getAt p.data.toList a).1 = 0 then rdl p k (a + (getAt p.data.toList a).2.1) (acc ++ [none])
    else rdl p k (a + (getAt p.data.toList a).2.1 + (getAt p.data.toList a).1 - 1) (acc ++ [some (p.extract (a + (getAt p.data.toList a).2.1) (a + (getAt p.data.toList a).2.1 + (getAt p.data.toList a).1 - 1))])

/-- What is a page, and which. -/
def rd (p : ByteArray) : Option (List Sl) :=
  if p.size ≠ 512 ∨ (getAt p.data.toList 0).2.2 = false ∨ 127 < (getAt p.data.toList 0).1 then none
  else if (rdl p (getAt p.data.toList 0).1 (getAt p.data.toList 0).2.1 []).2.length = (getAt p.data.toList 0).1 ∧ (trimL (rdl p (getAt p.data.toList 0).1 (getAt p.data.toList 0).2.1 []).2).length = (rdl p (getAt p.data.toList 0).1 (getAt p.data.toList 0).2.1 []).2.length ∧ 0 ≤ room (rdl p (getAt p.data.toList 0).1 (getAt p.data.toList 0).2.1 []).2 ∧ p.extract (rdl p (getAt p.data.toList 0).1 (getAt p.data.toList 0).2.1 []).1 p.size = ba (List.replicate (p.size - (rdl p (getAt p.data.toList 0).1 (getAt p.data.toList 0).2.1 []).1) 0) then some (rdl p (getAt p.data.toList 0).1 (getAt p.data.toList 0).2.1 []).2 else none

theorem rd_size {p : ByteArray} {l : List Sl} (h : rd p = some l) : p.size = 512 := by
  unfold rd at h
  split at h
  · cases h
  · rename_i hn
    by_cases e : p.size = 512
    · exact e
    · exact absurd (Or.inl e) hn

theorem getAt_drop (p : List UInt8) (a n : Nat) (rest : List UInt8) (hn : n < 18446744073709551616) (ha : a ≤ p.length) (h : p.drop a = enc n ++ rest) : getAt p (a : Int) = (n, (enc n).length, true) := by
  unfold getAt
  rw [if_pos (by omega), Int.toNat_natCast, h, dec_enc n rest hn]

theorem rdl_body (p : ByteArray) (l : List Sl) (rest : List UInt8) (hr : ∀ r, some r ∈ l → r.size ≤ 400) (a : Nat) (acc : List Sl) (ha : a ≤ p.size) (h : p.data.toList.drop a = bodyL l ++ rest) :
    rdl p l.length a acc = (a + (bodyL l).length, acc ++ l) := by
  induction l generalizing a acc with
  | nil => simp [rdl, bodyL]
  | cons s l ih =>
    have hpl : p.data.toList.length = p.size := by simp
    have hlen := congrArg List.length h
    rw [List.length_drop, hpl] at hlen
    simp only [bodyL, List.length_append] at hlen
    cases s with
    | none =>
      have h0 : getAt p.data.toList (a : Int) = (0, 1, true) := by
        have := getAt_drop p.data.toList a 0 (bodyL l ++ rest) (by omega) (by omega) (by simpa [bodyL, wd] using h)
        rw [this]; rfl
      have hw : (wd none).length = 1 := by decide
      have hd : p.data.toList.drop (a + 1) = bodyL l ++ rest := by
        rw [← List.drop_drop, h]
        simp only [bodyL, List.append_assoc]
        rw [← hw, List.drop_left']
        rfl
      simp only [List.length_cons, rdl, h0]
      rw [if_neg (by simp; omega), if_pos trivial, ih (fun r e => hr r (by simp [e])) (a + 1) (acc ++ [none]) (by omega) hd]
      simp [bodyL, hw]
      omega
    | some r =>
      have h4 := hr r (by simp)
      have hE := (enc_len (r.size + 1)).1
      have hr' : r.data.toList.length = r.size := by simp
      have h0 := getAt_drop p.data.toList a (r.size + 1) (r.data.toList ++ (bodyL l ++ rest)) (by omega) (by omega) (by simpa [bodyL, wd] using h)
      generalize hM : (enc (r.size + 1)).length = m at *
      have hw : (wd (some r)).length = m + r.size := by simp [wd, hM]
      have hd1 : p.data.toList.drop (a + m) = r.data.toList ++ (bodyL l ++ rest) := by
        rw [← List.drop_drop, h]
        simp only [bodyL, wd, List.append_assoc]
        exact List.drop_left' hM
      have hd : p.data.toList.drop (a + m + r.size) = bodyL l ++ rest := by
        rw [← List.drop_drop, hd1]
        exact List.drop_left' hr'
      have hx : p.extract (a + m) (a + m + (r.size + 1) - 1) = r := by
        apply ba_ext
        rw [ext_list, hd1]
        have : a + m + (r.size + 1) - 1 - (a + m) = r.size := by omega
        rw [this]
        exact List.take_left' hr'
      simp only [List.length_cons, rdl, h0]
      rw [if_neg (by simp; omega), if_neg (by omega), hx]
      rw [show a + m + (r.size + 1) - 1 = a + m + r.size by omega]
      rw [ih (fun r e => hr r (by simp [e])) (a + m + r.size) (acc ++ [some r]) (by omega) hd]
      simp [bodyL, hw]
      omega

theorem rd_pg {l : List Sl} (h : Fine l) : rd (pg l) = some l := by
  have hs := pg_size h
  have hl := pg_list l
  have hf := few h.room
  have hh := head_len l h.room h.rows
  have h0 : getAt (pg l).data.toList 0 = (l.length, (enc l.length).length, true) := by
    have := getAt_drop (pg l).data.toList 0 l.length (bodyL l ++ List.replicate (512 - (headL l).length) 0) (by omega) (by omega) (by rw [hl]; simp [pgL, headL])
    exact this
  have hd : (pg l).data.toList.drop (enc l.length).length = bodyL l ++ List.replicate (512 - (headL l).length) 0 := by
    rw [hl]
    simp only [pgL, headL, List.append_assoc]
    exact List.drop_left' rfl
  have hb := rdl_body (pg l) l _ h.rows (enc l.length).length [] (by rw [hs]; simp only [headL, List.length_append] at hh; omega) hd
  have he : (enc l.length).length + (bodyL l).length = (headL l).length := by simp [headL]
  rw [he, List.nil_append] at hb
  have hz : (pg l).extract (headL l).length (pg l).size = ba (List.replicate ((pg l).size - (headL l).length) 0) := by
    apply ba_ext
    rw [extract_drop, hl, hs]
    simp only [pgL, ba]
    exact List.drop_left' rfl
  unfold rd
  rw [h0]
  simp only [hb]
  rw [if_neg (by simp; omega), if_pos ⟨by trivial, by rw [h.trim], h.room, hz⟩]

theorem pg_inj {a b : List Sl} (ha : Fine a) (hb : Fine b) (h : pg a = pg b) : a = b := by
  have := rd_pg ha
  rw [h, rd_pg hb] at this
  injection this with e
  exact e.symm

/-- The row of a slot. -/
def rowAt (l : List Sl) (k : Int) : Sl := if 0 ≤ k then (l[k.toNat]?).join else none

def insE (l : List Sl) (row : ByteArray) : Int := if 400 < row.size then 2 else if room (withF l) < (row.size : Int) then 50 else 0
def insL (l : List Sl) (row : ByteArray) : List Sl := (withF l).set (first l) (some row)
def putE (l : List Sl) (k : Int) (row : ByteArray) : Int :=
  match rowAt l k with
  | none => 60
  | some r => if 400 < row.size then 2 else if room l + (r.size : Int) < (row.size : Int) then 50 else 0
def putL (l : List Sl) (k : Int) (row : ByteArray) : List Sl := l.set k.toNat (some row)
def delE (l : List Sl) (k : Int) : Int := match rowAt l k with | none => 60 | some _ => 0
def delL (l : List Sl) (k : Int) : List Sl := trimL (l.set k.toNat none)

theorem first_le (l : List Sl) : first l ≤ l.length := by
  induction l with
  | nil => simp [first]
  | cons s l ih => cases s <;> simp [first]; exact ih
theorem first_none (l : List Sl) (h : first l < l.length) : l[first l]? = some none := by
  induction l with
  | nil => simp at h
  | cons s l ih =>
    cases s with
    | none => rfl
    | some r => simp [first] at *; exact ih h
theorem first_lt (l : List Sl) (k : Nat) (h : k < first l) : ∃ r, l[k]? = some (some r) := by
  induction l generalizing k with
  | nil => simp [first] at h
  | cons s l ih =>
    cases s with
    | none => simp [first] at h
    | some r =>
      cases k with
      | zero => exact ⟨r, rfl⟩
      | succ k => simp [first] at h; simpa using ih k h
theorem withF_first (l : List Sl) : (withF l)[first l]? = some none := by
  unfold withF
  split
  · rename_i h; exact first_none l h
  · rename_i h
    have : first l = l.length := by have := first_le l; omega
    rw [this]; simp
theorem withF_tot (l : List Sl) : tot (withF l) = tot l := by
  unfold withF
  split
  · rfl
  · rw [tot_append]; simp [tot, rowOf]; rfl
theorem withF_len (l : List Sl) : (withF l).length ≤ l.length + 1 ∧ l.length ≤ (withF l).length := by
  unfold withF
  split <;> simp
theorem rowAt_some {l : List Sl} {k : Int} {r : ByteArray} (h : rowAt l k = some r) : 0 ≤ k ∧ l[k.toNat]? = some (some r) := by
  unfold rowAt at h
  split at h
  · refine ⟨by assumption, ?_⟩
    cases e : l[k.toNat]? with
    | none => rw [e] at h; cases h
    | some s => rw [e] at h; simp at h; rw [h]
  · cases h
theorem withF_mem {l : List Sl} {r : ByteArray} (h : some r ∈ withF l) : some r ∈ l := by
  unfold withF at h
  split at h
  · exact h
  · simpa using h
theorem ins_fine {l : List Sl} (h : Fine l) (row : ByteArray) (he : insE l row = 0) : Fine (insL l row) := by
  unfold insE at he
  split at he
  · cases he
  · split at he
    · cases he
    · rename_i h1 h2
      refine ⟨?_, ?_, ?_⟩
      · unfold insL withF
        split
        · exact trim_set l _ row h.trim
        · have : first l = l.length := by have := first_le l; omega
          rw [this, List.set_append_right _ _ (Nat.le_refl _), Nat.sub_self]
          exact trim_some l row
      · have := tot_set (withF l) (first l) none (some row) (withF_first l)
        unfold room insL at *
        rw [List.length_set]
        simp only [rowOf] at this
        have e : (ByteArray.mk #[]).size = 0 := rfl
        omega
      · intro r hr
        rcases List.mem_or_eq_of_mem_set hr with q | q
        · exact h.rows r (withF_mem q)
        · injection q with q; subst q; omega
theorem put_fine {l : List Sl} (h : Fine l) (k : Int) (row : ByteArray) (he : putE l k row = 0) : Fine (putL l k row) := by
  unfold putE at he
  split at he
  · cases he
  · rename_i r hr
    obtain ⟨h0, hk⟩ := rowAt_some hr
    split at he
    · cases he
    · split at he
      · cases he
      · refine ⟨trim_set l _ row h.trim, ?_, ?_⟩
        · have := tot_set l k.toNat (some r) (some row) hk
          unfold room putL at *
          rw [List.length_set]
          simp only [rowOf] at this
          omega
        · intro x hx
          rcases List.mem_or_eq_of_mem_set hx with q | q
          · exact h.rows x q
          · injection q with q; subst q; omega
theorem del_fine {l : List Sl} (h : Fine l) (k : Int) : Fine (delL l k) := by
  refine ⟨trim_idem _, ?_, ?_⟩
  · have h1 := (trim_len (l.set k.toNat none)).1
    have h2 := tot_trim (l.set k.toNat none)
    have h3 : tot (l.set k.toNat none) ≤ tot l := by
      cases e : l[k.toNat]? with
      | none =>
        have := List.getElem?_eq_none_iff.1 e
        rw [List.set_eq_of_length_le this]
        exact Nat.le_refl _
      | some s =>
        have := tot_set l k.toNat s none e
        have e : (rowOf none).size = 0 := rfl
        omega
    have := h.room
    rw [List.length_set] at h1
    unfold delL room at *
    omega
  · intro r hr
    rcases List.mem_or_eq_of_mem_set (mem_trim hr) with q | q
    · exact h.rows r q
    · cases q
theorem fine_nil : Fine [] := ⟨rfl, by decide, fun r h => by cases h⟩

/-- What is free: as many bytes as a row may have. -/
def freeN (l : List Sl) : Int := max (-1) (min (room (withF l)) 400)
/-- The slots that have a row, from the i-th on. -/
def slotsF : List Sl → Nat → List Int
  | [], _ => []
  | none :: l, i => slotsF l (i + 1)
  | some _ :: l, i => (i : Int) :: slotsF l (i + 1)
theorem slotsF_append (a b : List Sl) (i : Nat) : slotsF (a ++ b) i = slotsF a i ++ slotsF b (i + a.length) := by
  induction a generalizing i with
  | nil => simp [slotsF]
  | cons s a ih => cases s <;> simp [slotsF, ih] <;> congr 1 <;> omega
theorem slotsF_len (l : List Sl) (i : Nat) : (slotsF l i).length ≤ l.length := by
  induction l generalizing i with
  | nil => simp [slotsF]
  | cons s l ih => have := ih (i + 1); cases s <;> simp [slotsF] <;> omega

end Go.Proofs.YtkjioabhdglkpaaGreat

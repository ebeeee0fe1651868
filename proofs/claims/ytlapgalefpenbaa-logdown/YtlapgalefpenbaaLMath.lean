/- Plain mathematics of layer 5: a text's pieces, what a script of operations makes of a device, what a crash leaves of a log. -/
import Derived.Test.YtlapgalefpenbaaLDev
import Derived.Test.YtlapgalefpenbaaGetInt
namespace Go.Proofs.Ytlapgalefpenbaa
open Go.RowKit

/-- A text's pieces. -/
def pcF : Nat → List UInt8 → List (List UInt8)
  | 0, l => [l]
  | k + 1, l => l.take 500 :: pcF k (l.drop 500)
def pcs (l : List UInt8) : List (List UInt8) := pcF (l.length / 500) l

theorem pcF_length (k : Nat) (l : List UInt8) : (pcF k l).length = k + 1 := by
  induction k generalizing l with
  | zero => rfl
  | succ k ih => simp [pcF, ih]
theorem pcs_length (l : List UInt8) : (pcs l).length = l.length / 500 + 1 := pcF_length _ _

theorem pcF_get (k : Nat) (l : List UInt8) (i : Nat) (hi : i ≤ k) (hl : l.length < 500 * (k + 1)) : (pcF k l)[i]? = some ((l.drop (500 * i)).take 500) := by
  induction k generalizing l i with
  | zero =>
    obtain rfl : i = 0 := by omega
    simp only [pcF, Nat.mul_zero, List.drop_zero, List.getElem?_cons_zero]
    rw [List.take_of_length_le (by omega)]
  | succ k ih =>
    cases i with
    | zero => simp [pcF]
    | succ i =>
      simp only [pcF, List.getElem?_cons_succ]
      rw [ih (l.drop 500) i (by omega) (by rw [List.length_drop]; omega), List.drop_drop, show 500 + 500 * i = 500 * (i + 1) by omega]
theorem pcs_get (l : List UInt8) (i : Nat) (hi : i ≤ l.length / 500) : (pcs l)[i]? = some ((l.drop (500 * i)).take 500) :=
  pcF_get _ _ _ hi (by omega)

theorem pcF_len (k : Nat) (l : List UInt8) (hl : l.length < 500 * (k + 1)) : ∀ p ∈ pcF k l, p.length ≤ 500 := by
  induction k generalizing l with
  | zero => intro p hp; simp [pcF] at hp; subst hp; omega
  | succ k ih =>
    intro p hp
    simp only [pcF, List.mem_cons] at hp
    rcases hp with rfl | hp
    · rw [List.length_take]; omega
    · exact ih _ (by rw [List.length_drop]; omega) p hp
theorem pcs_len (l : List UInt8) : ∀ p ∈ pcs l, p.length ≤ 500 := pcF_len _ _ (by omega)

/-- What is read, piece by piece. -/
def rdf (s : List (List UInt8) × List UInt8) (p : List UInt8) : List (List UInt8) × List UInt8 := if p.length < 500 then (s.1 ++ [s.2 ++ p], []) else (s.1, s.2 ++ p)

theorem rd_pcF (k : Nat) (l : List UInt8) (h1 : 500 * k ≤ l.length) (h2 : l.length < 500 * (k + 1)) (t : List (List UInt8)) (c : List UInt8) : (pcF k l).foldl rdf (t, c) = (t ++ [c ++ l], []) := by
  induction k generalizing l c with
  | zero =>
    simp only [pcF, List.foldl_cons, List.foldl_nil, rdf]
    rw [if_pos (by omega)]
  | succ k ih =>
    simp only [pcF, List.foldl_cons]
    rw [show rdf (t, c) (l.take 500) = (t, c ++ l.take 500) from by
      unfold rdf
      rw [if_neg (by rw [List.length_take]; omega)]]
    rw [ih (l.drop 500) (by rw [List.length_drop]; omega) (by rw [List.length_drop]; omega), List.append_assoc, List.take_append_drop]
theorem rd_pcs (l : List UInt8) (t : List (List UInt8)) : (pcs l).foldl rdf (t, []) = (t ++ [l], []) := by
  unfold pcs
  rw [rd_pcF _ _ (by omega) (by omega), List.nil_append]

/-- The pieces of texts. -/
def allp : List ByteArray → List (List UInt8)
  | [] => []
  | t :: r => pcs t.data.toList ++ allp r
theorem allp_append (a b : List ByteArray) : allp (a ++ b) = allp a ++ allp b := by
  induction a with
  | nil => rfl
  | cons t a ih => simp [allp, ih]
theorem allp_len (T : List ByteArray) : ∀ p ∈ allp T, p.length ≤ 500 := by
  induction T with
  | nil => intro p hp; cases hp
  | cons t T ih =>
    intro p hp
    rcases List.mem_append.1 hp with h | h
    · exact pcs_len _ p h
    · exact ih p h
theorem rd_allp (T : List ByteArray) (t : List (List UInt8)) : (allp T).foldl rdf (t, []) = (t ++ T.map (·.data.toList), []) := by
  induction T generalizing t with
  | nil => simp [allp]
  | cons x T ih => rw [allp, List.foldl_append, rd_pcs, ih]; simp

/-- How many sectors texts take. -/
def secs (t : ByteArray) : Nat := t.size / 500 + 1
def secsL : List ByteArray → Nat
  | [] => 0
  | t :: r => secs t + secsL r
theorem secsL_append (a b : List ByteArray) : secsL (a ++ b) = secsL a + secsL b := by
  induction a with
  | nil => simp [secsL]
  | cons t a ih => simp [secsL, ih]; omega
theorem pcs_secs (t : ByteArray) : (pcs t.data.toList).length = secs t := by
  rw [pcs_length, secs]
  simp
theorem allp_secs (T : List ByteArray) : (allp T).length = secsL T := by
  induction T with
  | nil => rfl
  | cons t T ih => rw [allp, List.length_append, ih, pcs_secs, secsL]

/-- A sector that begins with bytes. -/
def sec (l : List UInt8) : ByteArray := ba (l ++ List.replicate (512 - l.length) 0)
theorem sec_size (l : List UInt8) (h : l.length ≤ 512) : (sec l).size = 512 := by
  rw [sec, ba_size, List.length_append, List.length_replicate]
  omega
theorem sec_list (l : List UInt8) : (sec l).data.toList = l ++ List.replicate (512 - l.length) 0 := by simp [sec, ba]

/-- What a place of a piece has. -/
def psec (p : List UInt8) : ByteArray := sec (putT p)
theorem putT_500 (p : List UInt8) (h : p.length ≤ 500) : (putT p).length ≤ 510 := by
  unfold putT
  have := (enc_len p.length).2
  rw [List.length_append]
  omega
theorem psec_size (p : List UInt8) (h : p.length ≤ 500) : (psec p).size = 512 := sec_size _ (by have := putT_500 p h; omega)

/-- An operation: a flush, or a write. -/
abbrev DOp := Option (Nat × ByteArray)
def dstep (D : DS) : DOp → Option Int × DS
  | none => if D.left = 0 then (some 41, D) else (none, D.flushed)
  | some p => if D.left = 0 then (some 41, D) else if D.next = 1 then (some 42, { D with next := 0 }) else (none, D.wrote p.1 p.2)
theorem dstep_none (D : DS) : dstep D none = if D.left = 0 then (some 41, D) else (none, D.flushed) := rfl
theorem dstep_some (D : DS) (p : Nat × ByteArray) : dstep D (some p) = if D.left = 0 then (some 41, D) else if D.next = 1 then (some 42, { D with next := 0 }) else (none, D.wrote p.1 p.2) := rfl
/-- What comes behind an answer. -/
def dthen (x : Option Int × DS) (f : DS → Option Int × DS) : Option Int × DS := match x.1 with
  | none => f x.2
  | some _ => x
def drun (D : DS) : List DOp → Option Int × DS
  | [] => (none, D)
  | o :: r => dthen (dstep D o) (drun · r)

theorem dthen_ok {x : Option Int × DS} (f : DS → Option Int × DS) (h : x.1 = none) : dthen x f = f x.2 := by unfold dthen; rw [h]
theorem dthen_no {x : Option Int × DS} (f : DS → Option Int × DS) {e : Int} (h : x.1 = some e) : dthen x f = x := by unfold dthen; rw [h]
theorem drun_append (D : DS) (a b : List DOp) : drun D (a ++ b) = dthen (drun D a) (drun · b) := by
  induction a generalizing D with
  | nil => rfl
  | cons o a ih =>
    show dthen (dstep D o) (drun · (a ++ b)) = dthen (dthen (dstep D o) (drun · a)) (drun · b)
    cases h : (dstep D o).1 with
    | none => rw [dthen_ok _ h, dthen_ok (x := dstep D o) _ h]; exact ih _
    | some e => rw [dthen_no _ h, dthen_no (x := dstep D o) _ h, dthen_no _ h]

theorem dstep_left (D : DS) (o : DOp) (e : Int) (h : (dstep D o).1 = some e) : e = 41 ∨ e = 42 := by
  cases o with
  | none => rw [dstep_none] at h; split at h <;> simp at h; exact Or.inl h.symm
  | some p =>
    rw [dstep_some] at h
    split at h
    · simp at h; exact Or.inl h.symm
    · split at h <;> simp at h
      exact Or.inr h.symm
theorem drun_err (D : DS) (l : List DOp) (e : Int) (h : (drun D l).1 = some e) : e = 41 ∨ e = 42 := by
  induction l generalizing D with
  | nil => cases h
  | cons o l ih =>
    have h' : (dthen (dstep D o) (drun · l)).1 = some e := h
    cases hs : (dstep D o).1 with
    | none => rw [dthen_ok _ hs] at h'; exact ih _ h'
    | some x => rw [dthen_no _ hs] at h'; exact dstep_left D o e h'

/-- Operations that a device of n sectors takes. -/
def okOps (n : Nat) (l : List DOp) : Prop := ∀ o ∈ l, ∀ p : Nat × ByteArray, o = some p → p.1 < n ∧ p.2.size = 512

theorem Inv.st {b : Nat} {D : DS} (h : Inv b D) (o : DOp) (ho : ∀ p : Nat × ByteArray, o = some p → p.1 < D.n ∧ p.2.size = 512) : Inv (b + 1) (dstep D o).2 ∧ (dstep D o).2.n = D.n := by
  cases o with
  | none =>
    rw [dstep_none]
    split
    · exact ⟨h.mono (Nat.le_succ b), rfl⟩
    · exact ⟨h.flushed, rfl⟩
  | some p =>
    obtain ⟨h1, h2⟩ := ho p rfl
    rw [dstep_some]
    split
    · exact ⟨h.mono (Nat.le_succ b), rfl⟩
    · split
      · exact ⟨h.broken.mono (Nat.le_succ b), rfl⟩
      · exact ⟨h.wrote _ _ h1 h2, rfl⟩
theorem Inv.run {b : Nat} {D : DS} (h : Inv b D) (l : List DOp) (hl : okOps D.n l) : Inv (b + l.length) (drun D l).2 ∧ (drun D l).2.n = D.n := by
  induction l generalizing b D with
  | nil => exact ⟨h, rfl⟩
  | cons o l ih =>
    obtain ⟨h1, h2⟩ := h.st o (hl o (List.mem_cons_self ..))
    show Inv (b + (l.length + 1)) (dthen (dstep D o) (drun · l)).2 ∧ (dthen (dstep D o) (drun · l)).2.n = D.n
    cases hs : (dstep D o).1 with
    | none =>
      rw [dthen_ok _ hs]
      have := ih h1 (by rw [h2]; exact fun x hx => hl x (List.mem_cons_of_mem _ hx))
      exact ⟨this.1.mono (by omega), this.2.trans h2⟩
    | some e => rw [dthen_no _ hs]; exact ⟨h1.mono (by omega), h2⟩

/-- A device whose power lasts, and that refuses nothing. -/
def Calm (D : DS) : Prop := D.left < 0 ∧ D.next ≤ 0
theorem Calm.st {D : DS} (h : Calm D) (o : DOp) : (dstep D o).1 = none ∧ Calm (dstep D o).2 := by
  obtain ⟨h1, h2⟩ := h
  have hl : D.left ≠ 0 := by omega
  have hn : D.next ≠ 1 := by omega
  cases o with
  | none =>
    rw [dstep_none]
    rw [if_neg hl]
    exact ⟨rfl, by show D.left - 1 < 0; omega, h2⟩
  | some p =>
    rw [dstep_some]
    rw [if_neg hl, if_neg hn]
    exact ⟨rfl, by show D.left - 1 < 0; omega, by show D.next - 1 ≤ 0; omega⟩
theorem Calm.run {D : DS} (h : Calm D) (l : List DOp) : (drun D l).1 = none ∧ Calm (drun D l).2 := by
  induction l generalizing D with
  | nil => exact ⟨rfl, h⟩
  | cons o l ih =>
    obtain ⟨h1, h2⟩ := h.st o
    show (dthen (dstep D o) (drun · l)).1 = none ∧ Calm (dthen (dstep D o) (drun · l)).2
    rw [dthen_ok _ h1]
    exact ih h2
theorem calm_new (n : Nat) : Calm (D0 n) := ⟨of_decide_eq_true rfl, of_decide_eq_true rfl⟩
theorem calm_crashed (D : DS) (L : List Int) : Calm (D.crashed L) := ⟨by show (-1 : Int) < 0; omega, by show (0 : Int) ≤ 0; omega⟩

end Go.Proofs.Ytlapgalefpenbaa

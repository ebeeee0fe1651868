/- Words of layer 3, on plain lists of bytes: texts whose zeros are kept, numbers of eight bytes, what is after a text; and their order. -/
import Derived.Test.YtijpnlomfodihaaDoorVOrd
namespace Go.Proofs.YtijpnlomfodihaaDoor
open Go.RowKit

/-- Each 0 of a text becomes 0 255. -/
def esc : List UInt8 → List UInt8
  | [] => []
  | c :: l => if c = 0 then 0 :: 255 :: esc l else c :: esc l

/-- A number's last k bytes, the highest first. -/
def be : Nat → Nat → List UInt8
  | 0, _ => []
  | k + 1, u => UInt8.ofNat (u / 256 ^ k) :: be k u

/-- The number of bytes, the highest first. -/
def ofBe (l : List UInt8) : Nat := l.foldl (fun u c => u * 256 + c.toNat) 0

/-- What is after a text. -/
def aft : List UInt8 → List UInt8
  | [] => []
  | c :: l => if aft l = [] then (if c = 255 then [] else [c + 1]) else c :: aft l

/-- Two texts part, the first one ahead of the other one, whatever follows them. -/
def Sep (a b : List UInt8) : Prop := ∃ p x y r t, a = p ++ x :: r ∧ b = p ++ y :: t ∧ x < y

theorem bl_cons (x y : UInt8) (a b : List UInt8) : Op.bytesLess (x :: a) (y :: b) = (decide (x < y) || (decide (x = y) && Op.bytesLess a b)) := by
  simp only [Op.bytesLess]
  rcases Nat.lt_trichotomy x.toNat y.toNat with h | h | h
  · have : x < y := UInt8.lt_iff_toNat_lt.2 h
    simp [this]
  · obtain rfl := UInt8.toNat_inj.1 h
    simp
  · have h2 : ¬ x < y := fun e => by have := UInt8.lt_iff_toNat_lt.1 e; omega
    have h3 : x ≠ y := fun e => by subst e; omega
    simp [h2, h3]

theorem bl_nil (a : List UInt8) : Op.bytesLess a [] = false := by cases a <;> rfl
theorem bl_nil_cons (c : UInt8) (a : List UInt8) : Op.bytesLess [] (c :: a) = true := rfl

theorem bl_app (p a b : List UInt8) : Op.bytesLess (p ++ a) (p ++ b) = Op.bytesLess a b := by
  induction p with
  | nil => rfl
  | cons c p ih => rw [List.cons_append, List.cons_append, bl_cons, ih]; simp

theorem Sep.lt {a b : List UInt8} (h : Sep a b) (r t : List UInt8) : Op.bytesLess (a ++ r) (b ++ t) = true := by
  obtain ⟨p, x, y, r', t', rfl, rfl, hx⟩ := h
  rw [List.append_assoc, List.append_assoc, bl_app, List.cons_append, List.cons_append, bl_cons]
  simp [hx]

theorem Sep.cons {a b : List UInt8} (c : UInt8) (h : Sep a b) : Sep (c :: a) (c :: b) := by
  obtain ⟨p, x, y, r, t, rfl, rfl, hx⟩ := h
  exact ⟨c :: p, x, y, r, t, rfl, rfl, hx⟩

theorem Sep.head {x y : UInt8} (h : x < y) (r t : List UInt8) : Sep (x :: r) (y :: t) := ⟨[], x, y, r, t, rfl, rfl, h⟩

/-- The order of texts is that of their bytes in a key. -/
theorem esc_sep (a b : List UInt8) (h : Op.bytesLess a b = true) : Sep (esc a ++ [0, 1]) (esc b ++ [0, 1]) := by
  induction a generalizing b with
  | nil =>
    cases b with
    | nil => simp [bl_nil] at h
    | cons d m =>
      by_cases hd : d = 0
      · subst hd
        exact (Sep.head (by decide) _ _).cons 0
      · have : 0 < d := by
          rw [UInt8.lt_iff_toNat_lt]
          have : d.toNat ≠ 0 := fun e => hd (UInt8.toNat_inj.1 (by simpa using e))
          simpa using Nat.pos_of_ne_zero this
        simp only [esc, if_neg hd, List.nil_append, List.cons_append]
        exact Sep.head this _ _
  | cons c l ih =>
    cases b with
    | nil => simp [bl_nil] at h
    | cons d m =>
      rw [bl_cons, Bool.or_eq_true, Bool.and_eq_true] at h
      rcases h with h | ⟨h1, h2⟩
      · have h := of_decide_eq_true h
        have hd : d ≠ 0 := fun e => by subst e; have := UInt8.lt_iff_toNat_lt.1 h; simp at this
        by_cases hc : c = 0
        · subst hc
          simp only [esc, if_neg hd, if_true, List.cons_append]
          exact Sep.head h _ _
        · simp only [esc, if_neg hd, if_neg hc, List.cons_append]
          exact Sep.head h _ _
      · obtain rfl := of_decide_eq_true h1
        have := ih m h2
        by_cases hc : c = 0
        · subst hc
          simp only [esc, if_true, List.cons_append]
          exact (this.cons _).cons _
        · simp only [esc, if_neg hc, List.cons_append]
          exact this.cons _

theorem be_length (k u : Nat) : (be k u).length = k := by
  induction k with
  | zero => rfl
  | succ k ih => simp [be, ih]

theorem ofNat_eq_iff (a b : Nat) : UInt8.ofNat a = UInt8.ofNat b ↔ a % 256 = b % 256 := by
  rw [← UInt8.toNat_inj]; simp

/-- The order of numbers is that of their bytes. -/
theorem be_sep (k a b : Nat) (h : a % 256 ^ k < b % 256 ^ k) : Sep (be k a) (be k b) := by
  induction k with
  | zero => simp [Nat.mod_one] at h
  | succ k ih =>
    have ha : a % 256 ^ (k + 1) = a % 256 ^ k + 256 ^ k * (a / 256 ^ k % 256) := by rw [Nat.pow_succ, Nat.mod_mul]
    have hb : b % 256 ^ (k + 1) = b % 256 ^ k + 256 ^ k * (b / 256 ^ k % 256) := by rw [Nat.pow_succ, Nat.mod_mul]
    rw [ha, hb] at h
    have hp : 0 < 256 ^ k := Nat.pow_pos (by omega)
    have h1 := Nat.mod_lt a hp
    have h2 := Nat.mod_lt b hp
    rcases Nat.lt_trichotomy (a / 256 ^ k % 256) (b / 256 ^ k % 256) with g | g | g
    · refine Sep.head ?_ _ _
      rw [UInt8.lt_iff_toNat_lt]
      simpa using g
    · have e : UInt8.ofNat (a / 256 ^ k) = UInt8.ofNat (b / 256 ^ k) := (ofNat_eq_iff _ _).2 g
      rw [be, be, e]
      refine (ih ?_).cons _
      rw [g] at h
      omega
    · have : 256 ^ k * (b / 256 ^ k % 256) + 256 ^ k ≤ 256 ^ k * (a / 256 ^ k % 256) := by
        rw [← Nat.mul_succ]; exact Nat.mul_le_mul_left _ g
      omega

theorem foldl_be (k u : Nat) (a : Nat) : (be k u).foldl (fun u c => u * 256 + c.toNat) a = a * 256 ^ k + u % 256 ^ k := by
  induction k generalizing a with
  | zero => simp [be, Nat.mod_one]
  | succ k ih =>
    rw [be, List.foldl_cons, ih, Nat.pow_succ, Nat.mod_mul]
    simp only [UInt8.toNat_ofNat', show 2 ^ 8 = 256 from rfl]
    rw [Nat.add_mul, Nat.mul_assoc, Nat.mul_comm 256]
    rw [Nat.mul_comm (256 ^ k) (u / 256 ^ k % 256)]
    omega

theorem ofBe_be (k u : Nat) : ofBe (be k u) = u % 256 ^ k := by
  unfold ofBe
  rw [foldl_be]
  omega

theorem foldl_be_back (l : List UInt8) (a : Nat) : l.foldl (fun u c => u * 256 + c.toNat) a = a * 256 ^ l.length + ofBe l ∧ ofBe l < 256 ^ l.length := by
  induction l generalizing a with
  | nil => simp [ofBe]
  | cons c l ih =>
    have h0 := ih (0 * 256 + c.toNat)
    have h1 := ih (a * 256 + c.toNat)
    have hc := UInt8.toNat_lt c
    have e : ofBe (c :: l) = c.toNat * 256 ^ l.length + ofBe l := by
      have : ofBe (c :: l) = l.foldl (fun u c => u * 256 + c.toNat) (0 * 256 + c.toNat) := rfl
      rw [this, h0.1]; simp
    rw [List.foldl_cons, h1.1, e, List.length_cons, Nat.pow_succ]
    refine ⟨?_, ?_⟩
    · rw [Nat.add_mul, Nat.mul_assoc, Nat.mul_comm 256]; omega
    · have : c.toNat * 256 ^ l.length + 256 ^ l.length ≤ 256 ^ l.length * 256 := by
        rw [Nat.mul_comm (256 ^ l.length) 256, ← Nat.succ_mul]; exact Nat.mul_le_mul_right _ hc
      have := h0.2
      omega

theorem ofBe_cons (c : UInt8) (l : List UInt8) : ofBe (c :: l) = c.toNat * 256 ^ l.length + ofBe l := by
  have : ofBe (c :: l) = l.foldl (fun u c => u * 256 + c.toNat) (0 * 256 + c.toNat) := rfl
  rw [this, (foldl_be_back l _).1]; simp

theorem be_ofBe (l : List UInt8) (a : Nat) : be l.length (a * 256 ^ l.length + ofBe l) = l := by
  induction l generalizing a with
  | nil => rfl
  | cons c l ih =>
    have hp : 0 < 256 ^ l.length := Nat.pow_pos (by omega)
    have hl := (foldl_be_back l 0).2
    have e : a * 256 ^ (l.length + 1) + ofBe (c :: l) = (a * 256 + c.toNat) * 256 ^ l.length + ofBe l := by
      rw [ofBe_cons, Nat.pow_succ, Nat.add_mul, Nat.mul_assoc, Nat.mul_comm 256]; omega
    rw [List.length_cons, be, e, ih]
    congr 1
    rw [Nat.add_comm, Nat.add_mul_div_right _ _ hp, Nat.div_eq_of_lt hl, ← UInt8.toNat_inj]
    have := UInt8.toNat_lt c
    simp

/-- What stands from a text on, below what is after it, begins with it; and else nothing. -/
theorem aft_in (s x : List UInt8) : (!Op.bytesLess x s && (decide (aft s = []) || Op.bytesLess x (aft s))) = s.isPrefixOf x := by
  induction s generalizing x with
  | nil => simp [bl_nil, aft]
  | cons c l ih =>
    cases x with
    | nil => simp [bl_nil_cons]
    | cons d y =>
      have hi := ih y
      rw [List.isPrefixOf_cons_cons, ← hi, bl_cons]
      by_cases ha : aft l = []
      · by_cases hc : c = 255
        · subst hc
          have e : aft (255 :: l) = [] := by simp [aft, ha]
          have h1 : (decide (d < 255) || decide (d = 255)) = true := by
            have := UInt8.toNat_lt d
            by_cases hd : d = 255
            · simp [hd]
            · have : d.toNat ≠ 255 := fun e => hd (UInt8.toNat_inj.1 (by simpa using e))
              have : d < 255 := by rw [UInt8.lt_iff_toNat_lt]; simp; omega
              simp [this]
          rw [e, ha]
          by_cases hd : d = 255
          · subst hd; simp
          · have h2 : d < 255 := by simpa [hd] using h1
            have h3 : ((255 : UInt8) == d) = false := by rw [beq_eq_false_iff_ne]; exact fun e => hd e.symm
            simp [h2, h3]
        · have e : aft (c :: l) = [c + 1] := by simp [aft, ha, hc]
          have hc1 : (c + 1).toNat = c.toNat + 1 := by
            have h0 := UInt8.toNat_lt c
            have : c.toNat ≠ 255 := fun e => hc (UInt8.toNat_inj.1 (by simpa using e))
            rw [UInt8.toNat_add]; simp; omega
          rw [e, ha, bl_cons]
          rcases Nat.lt_trichotomy d.toNat c.toNat with g | g | g
          · have h2 : d < c := UInt8.lt_iff_toNat_lt.2 g
            have h3 : (c == d) = false := by rw [beq_eq_false_iff_ne]; intro e; subst e; omega
            simp [h2, h3]
          · obtain rfl := UInt8.toNat_inj.1 g
            have h4 : d < d + 1 := by rw [UInt8.lt_iff_toNat_lt, hc1]; omega
            simp [h4]
          · have h2 : ¬ d < c := fun e => by have := UInt8.lt_iff_toNat_lt.1 e; omega
            have h3 : (c == d) = false := by rw [beq_eq_false_iff_ne]; intro e; subst e; omega
            have h4 : ¬ d < c + 1 := fun e => by have := UInt8.lt_iff_toNat_lt.1 e; omega
            simp [h2, h3, h4, bl_nil]
      · have e : aft (c :: l) = c :: aft l := by simp [aft, ha]
        rw [e, bl_cons]
        rcases Nat.lt_trichotomy d.toNat c.toNat with g | g | g
        · have h2 : d < c := UInt8.lt_iff_toNat_lt.2 g
          have h3 : (c == d) = false := by rw [beq_eq_false_iff_ne]; intro e; subst e; omega
          simp [h2, h3]
        · obtain rfl := UInt8.toNat_inj.1 g
          simp [ha]
        · have h2 : ¬ d < c := fun e => by have := UInt8.lt_iff_toNat_lt.1 e; omega
          have h3 : (c == d) = false := by rw [beq_eq_false_iff_ne]; intro e; subst e; omega
          have h5 : d ≠ c := fun e => by subst e; omega
          simp [h2, h3, h5]

theorem aft_ones (k : Nat) : aft (List.replicate k 255) = [] := by
  induction k with
  | zero => rfl
  | succ k ih => simp [List.replicate_succ, aft, ih]

theorem aft_at (p : List UInt8) (c : UInt8) (k : Nat) (hc : c ≠ 255) : aft (p ++ c :: List.replicate k 255) = p ++ [c + 1] := by
  induction p with
  | nil => simp [aft, aft_ones, hc]
  | cons d p ih => rw [List.cons_append, aft, ih]; simp

theorem aft_all {s : List UInt8} (h : ∀ c ∈ s, c = 255) : aft s = [] := by
  induction s with
  | nil => rfl
  | cons c l ih => simp [aft, ih (fun x hx => h x (List.mem_cons_of_mem _ hx)), h c List.mem_cons_self]

end Go.Proofs.YtijpnlomfodihaaDoor

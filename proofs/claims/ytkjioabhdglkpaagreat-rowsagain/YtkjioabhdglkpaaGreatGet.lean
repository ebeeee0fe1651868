/- The contract of num.Get: the number that stands at a place, by 'dec' of the bytes from there on. -/
import Derived.Test.YtkjioabhdglkpaaGreatPut
namespace Go.Proofs.YtkjioabhdglkpaaGreat
open Go.RowKit

/-- What stands in bytes, from the k-th on, with what was gathered: the number, its size, whether there is one. -/
def decF : Nat → Nat → List UInt8 → Nat × Nat × Bool
  | _, _, [] => (0, 0, false)
  | i, acc, b :: l =>
    if 0 < i ∧ b.toNat = 0 then (0, 0, false)
    else if i = 9 ∧ b.toNat ≠ 1 then (0, 0, false)
    else if b.toNat < 128 then (acc + b.toNat % 128 * 128 ^ i, i + 1, true)
    else decF (i + 1) (acc + b.toNat % 128 * 128 ^ i) l

def dec (l : List UInt8) : Nat × Nat × Bool := decF 0 0 l

theorem decF_zero {k acc : Nat} {b : UInt8} {l : List UInt8} (h1 : 0 < k) (h2 : b.toNat = 0) : decF k acc (b :: l) = (0, 0, false) := by
  simp [decF, h1, h2]

theorem decF_nine {k acc : Nat} {b : UInt8} {l : List UInt8} (h1 : k = 9) (h2 : b.toNat ≠ 1) : decF k acc (b :: l) = (0, 0, false) := by
  simp [decF, h1, h2]

theorem decF_last {k acc : Nat} {b : UInt8} {l : List UInt8} (h1 : 0 < k → b.toNat ≠ 0) (h2 : k = 9 → b.toNat = 1) (h3 : b.toNat < 128) :
    decF k acc (b :: l) = (acc + b.toNat % 128 * 128 ^ k, k + 1, true) := by
  rw [decF, if_neg (by rintro ⟨a, b⟩; exact h1 a b), if_neg (by rintro ⟨a, b⟩; exact b (h2 a)), if_pos h3]

theorem decF_more {k acc : Nat} {b : UInt8} {l : List UInt8} (h2 : k ≠ 9) (h3 : 128 ≤ b.toNat) :
    decF k acc (b :: l) = decF (k + 1) (acc + b.toNat % 128 * 128 ^ k) l := by
  rw [decF, if_neg (by omega), if_neg (by omega), if_neg (by omega)]

theorem drop_cons (r : ByteArray) (k : Nat) (h : k < r.size) : r.data.toList.drop k = r[k] :: r.data.toList.drop (k + 1) := by
  have h' : k < r.data.toList.length := by simpa using h
  rw [List.drop_eq_getElem_cons h']
  rfl

theorem drop_all (r : ByteArray) (k : Nat) (h : ¬ k < r.size) : r.data.toList.drop k = [] := by
  apply List.drop_of_length_le
  have : r.data.toList.length = r.size := by simp
  omega

theorem extract_drop (s : ByteArray) (p : Nat) : (s.extract p s.size).data.toList = s.data.toList.drop p := by
  rw [ByteArray.data_extract, Array.toList_extract]
  show List.take (s.size - p) (List.drop p s.data.toList) = _
  apply List.take_of_length_le
  simp

theorem and_127 : ∀ a : Nat, a < 256 → a &&& 127 = a % 128 := by decide +kernel

theorem and127 (c : Nat) (hc : c < 256) : bits .and .u8 (c : Int) 127 = ((c % 128 : Nat) : Int) := by
  have h := u8_and_nat c 127 hc (by omega)
  rw [and_127 _ hc] at h
  exact h

theorem pow_128 (k : Nat) : (128 : Nat) ^ k = 2 ^ (7 * k) := by
  rw [show (128 : Nat) = 2 ^ 7 from rfl, ← Nat.pow_mul]

theorem add_or (acc x k : Nat) (ha : acc < 128 ^ k) : acc ||| x * 128 ^ k = acc + x * 128 ^ k := by
  rw [pow_128] at *
  have := Nat.two_pow_add_eq_or_of_lt ha x
  rw [Nat.or_comm, Nat.mul_comm x, ← this, Nat.add_comm]

theorem mul_bound (x k : Nat) (hx : x < 128) (hk : k ≤ 9) (h9 : k = 9 → x ≤ 1) : x * 128 ^ k < 18446744073709551616 ∧ ∀ acc, acc < 128 ^ k → acc + x * 128 ^ k < 18446744073709551616 := by
  rcases Nat.lt_or_ge k 9 with h | h
  · have h1 : (128 : Nat) ^ k ≤ 128 ^ 8 := Nat.pow_le_pow_right (by omega) (by omega)
    have h2 : x * 128 ^ k ≤ 127 * 128 ^ 8 := Nat.mul_le_mul (by omega) h1
    exact ⟨by omega, fun acc ha => by omega⟩
  · have : k = 9 := by omega
    subst this
    have := h9 rfl
    exact ⟨by omega, fun acc ha => by omega⟩

theorem gather (acc k c : Nat) (hc : c < 256) (hk : k ≤ 9) (h9 : k = 9 → c % 128 ≤ 1) (ha : acc < 128 ^ k) :
    bits .or .u64 (acc : Int) (IntKind.u64.wrap (IntKind.u64.wrap (bits .and .u8 (c : Int) 127) * 2 ^ (7 * k))) = ((acc + c % 128 * 128 ^ k : Nat) : Int) := by
  have hb := mul_bound (c % 128) k (by omega) hk h9
  rw [and127 c hc, IntKind.wrap_u64, IntKind.wrap_u64, show (2 : Int) ^ (7 * k) = ((128 ^ k : Nat) : Int) from by rw [pow_128]; simp]
  rw [show ((c % 128 : Nat) : Int) % 18446744073709551616 = ((c % 128 : Nat) : Int) from by omega, ← Int.natCast_mul]
  rw [show ((c % 128 * 128 ^ k : Nat) : Int) % 18446744073709551616 = ((c % 128 * 128 ^ k : Nat) : Int) from by have := hb.1; omega]
  rw [u64_or_nat acc (c % 128 * 128 ^ k) (by have := hb.2 acc ha; omega) hb.1, add_or _ _ _ ha]

theorem gather9 (acc k c : Nat) (hc : c < 256) (hk : k = 9) (h9 : c = 1) (ha : acc < 128 ^ k) :
    bits .or .u64 (acc : Int) (IntKind.u64.wrap (IntKind.u64.wrap (bits .and .u8 (c : Int) 127) * 9223372036854775808)) = ((acc + c % 128 * 128 ^ k : Nat) : Int) := by
  have h := gather acc k c hc (by omega) (by omega) ha
  subst hk
  exact h

theorem lt_step (acc c k : Nat) (ha : acc < 128 ^ k) : acc + c % 128 * 128 ^ k < 128 ^ (k + 1) := by
  have h1 : c % 128 * 128 ^ k ≤ 127 * 128 ^ k := Nat.mul_le_mul_right _ (by omega)
  rw [Nat.pow_succ]
  omega

/-- What Get answers. -/
def gotV (d : Nat × Nat × Bool) : Value := .tuple #[.int .u64 (d.1 : Int), .int .i64 (d.2.1 : Int), .bool d.2.2]

theorem gotV_no {d : Nat × Nat × Bool} (h : d = (0, 0, false)) : Ending.returned (.tuple #[.int .u64 0, .int .i64 0, .bool false]) = .returned (gotV d) := by rw [h]; rfl

theorem gotV_yes {d : Nat × Nat × Bool} {x y : Int} {n k : Nat} (h : d = (n, k, true)) (hx : x = (n : Int)) (hy : y = (k : Int)) :
    Ending.returned (.tuple #[.int .u64 x, .int .i64 y, .bool true]) = .returned (gotV d) := by rw [h, hx, hy]; rfl

set_option maxHeartbeats 800000 in
set_option maxRecDepth 100000 in
theorem get_in (s : ByteArray) (p : Nat) (w : World) (hp : p ≤ s.size) :
    Calls Tryz.prog 110 #[.string s, .int .i64 (p : Int)] w fun e w' =>
      e = .returned (gotV (dec (s.data.toList.drop p))) ∧ w' = w := by
  rw [← extract_drop]
  have hrs : s.size - p = (s.extract p s.size).size := by simp
  generalize hr : s.extract p s.size = r at *
  go_enter Tryz.func110, Tryz.ntmps110
  go_wp2
  go_step3
  go_wp2
  go_step3
  go_wp2
  clear hr hrs hp
  go_loop [4, 23] (fun sn si => ∃ k acc : Nat, k ≤ r.size ∧ k ≤ 9 ∧ acc < 128 ^ k ∧ si = .int .i64 (k : Int) ∧ sn = .int .u64 (acc : Int) ∧ decF k acc (r.data.toList.drop k) = dec r.data.toList) (fun _ si => r.size - (intOf si).toNat)
  case atStart => exact ⟨0, 0, Nat.zero_le _, Nat.zero_le _, by simp, rfl, rfl, rfl⟩
  case round =>
    obtain ⟨k, acc, hk, hk9, hacc, rfl, rfl, hd⟩ := hrel
    have HD : Hid (decF k acc (r.data.toList.drop k) = dec r.data.toList) := hd
    have HA : Hid (acc < 128 ^ k) := hacc
    clear hd hacc
    by_cases hlt : k < r.size
    · have HC := drop_cons r k hlt
      have HL : Hid (decF k acc (r[k] :: r.data.toList.drop (k + 1)) = dec r.data.toList) := by rw [← HC]; exact HD.out
      clear HC HD
      have hc := r[k].toNat_lt
      have HB : Hid (r[k].toNat < 256) := hc
      clear hc
      go_wp2
      · have hz : ((r[k].toNat : Int) == 0) = true := by assumption
        have h0 : 0 < k := by assumption
        go_ret3
        exact ⟨gotV_no (HL.out.symm.trans (decF_zero h0 (by simpa using hz))), rfl⟩
      · have hz : ((r[k].toNat : Int) != 1) = true := by assumption
        have h9 : (k : Int) = 9 := by assumption
        go_ret3
        exact ⟨gotV_no (HL.out.symm.trans (decF_nine (by omega) (by rw [bne_iff_ne] at hz; omega))), rfl⟩
      · have hz : ((r[k].toNat : Int) == 0) = false := by assumption
        have hz1 : ((r[k].toNat : Int) != 1) = false := by assumption
        have h9 : (k : Int) = 9 := by assumption
        have hz2 : r[k].toNat ≠ 0 := by rw [beq_eq_false_iff_ne] at hz; omega
        have hz3 : r[k].toNat = 1 := by simp at hz1; omega
        go_ret3
        exact ⟨gotV_yes (HL.out.symm.trans (decF_last (fun _ => hz2) (fun _ => hz3) (by omega))) (gather9 acc k _ HB.out (by omega) hz3 HA.out) (by omega), rfl⟩
      · have hz1 : ((r[k].toNat : Int) != 1) = false := by assumption
        have hz3 : r[k].toNat = 1 := by simp at hz1; omega
        omega
      · have hz : ((r[k].toNat : Int) == 0) = false := by assumption
        have h9 : ¬ (k : Int) = 9 := by assumption
        have hz2 : r[k].toNat ≠ 0 := by rw [beq_eq_false_iff_ne] at hz; omega
        go_ret3
        exact ⟨gotV_yes (HL.out.symm.trans (decF_last (fun _ => hz2) (fun h => by omega) (by omega))) (gather acc k _ HB.out hk9 (by omega) HA.out) (by omega), rfl⟩
      · have h9 : ¬ (k : Int) = 9 := by assumption
        have hb : (128 : Int) ≤ (r[k].toNat : Int) := by assumption
        go_round
        case rel => exact ⟨_, _, _, _, _, _, ⟨k + 1, by omega, by omega, acc + r[k].toNat % 128 * 128 ^ k, lt_step acc _ k HA.out, by go_num, by rw [gather acc k _ HB.out hk9 (by omega) HA.out], by rw [← HL.out, decF_more (by omega) (by omega)]⟩, rfl, rfl, rfl, rfl, rfl, rfl⟩
        case measure => simp [intOf]; omega
      · have h9 : ¬ (k : Int) = 9 := by assumption
        go_ret3
        exact ⟨gotV_yes (HL.out.symm.trans (decF_last (fun _ => by omega) (fun h => by omega) (by omega))) (gather acc k _ HB.out hk9 (by omega) HA.out) (by omega), rfl⟩
      · have h9 : ¬ (k : Int) = 9 := by assumption
        have hb : (128 : Int) ≤ (r[k].toNat : Int) := by assumption
        go_round
        case rel => exact ⟨_, _, _, _, _, _, ⟨k + 1, by omega, by omega, acc + r[k].toNat % 128 * 128 ^ k, lt_step acc _ k HA.out, by go_num, by rw [gather acc k _ HB.out hk9 (by omega) HA.out], by rw [← HL.out, decF_more (by omega) (by omega)]⟩, rfl, rfl, rfl, rfl, rfl, rfl⟩
        case measure => simp [intOf]; omega
    · have hd : dec r.data.toList = (0, 0, false) := by rw [← HD.out, drop_all r k hlt]; rfl
      have HD2 : Hid (dec r.data.toList = (0, 0, false)) := hd
      clear hd
      go_wp2
      go_ret3
      exact ⟨gotV_no HD2.out, rfl⟩

/-- The number at a place, anywhere. -/
def getAt (l : List UInt8) (p : Int) : Nat × Nat × Bool := if 0 ≤ p ∧ p ≤ (l.length : Int) then dec (l.drop p.toNat) else (0, 0, false)

set_option maxHeartbeats 800000 in
set_option maxRecDepth 100000 in
theorem get_out (s : ByteArray) (p : Int) (w : World) (hp : p < 0 ∨ (s.size : Int) < p) :
    Calls Tryz.prog 110 #[.string s, .int .i64 p] w fun e w' => e = .returned (gotV (0, 0, false)) ∧ w' = w := by
  rcases hp with h | h
  · go_enter Tryz.func110, Tryz.ntmps110
    go_wp2
    go_step3
    go_wp2
    rw [Exit.noGoto_ret]
    go_ret3
    exact ⟨rfl, rfl⟩
  · have h0 : 0 ≤ p := by omega
    go_enter Tryz.func110, Tryz.ntmps110
    go_wp2
    go_step3
    go_wp2
    rw [Exit.noGoto_ret]
    go_ret3
    exact ⟨rfl, rfl⟩

theorem get_any (s : ByteArray) (p : Int) (w : World) :
    Calls Tryz.prog 110 #[.string s, .int .i64 p] w fun e w' => e = .returned (gotV (getAt s.data.toList p)) ∧ w' = w := by
  by_cases h : 0 ≤ p ∧ p ≤ (s.data.toList.length : Int)
  · unfold getAt
    rw [if_pos h]
    have hl : s.data.toList.length = s.size := by simp
    have hc := get_in s p.toNat w (by omega)
    rw [show ((p.toNat : Nat) : Int) = p from by omega] at hc
    exact hc
  · unfold getAt
    rw [if_neg h]
    have hl : s.data.toList.length = s.size := by simp
    exact get_out s p w (by omega)

end Go.Proofs.YtkjioabhdglkpaaGreat

/- The contract of num.Put: its answer is the bytes 'enc n', nothing that was there has turned. -/
import Derived.Test.YtkjioabhdglkpaaGreatRows
import Derived.Test.YtkjioabhdglkpaaGreatMath
import Derived.WalkKit
namespace Go.Proofs.YtkjioabhdglkpaaGreat
open Go.RowKit

theorem Tryz.info5 : (Tryz.prog.info? 5).map (fun i => (i.zero, i.size, i.bytes)) = some (some (.int .u8 0), 1, 1) := by kernel_rfl

/-- A byte as a cell. -/
def bv (b : UInt8) : Value := .int .u8 (b.toNat : Int)

theorem or_128 : ∀ a : Nat, a < 256 → a ||| 128 = a % 128 + 128 := by decide +kernel

theorem or128 (m : Nat) : bits .or .u8 ((m : Int) % 256) 128 = ((UInt8.ofNat (m % 128 + 128)).toNat : Int) := by
  have h := u8_or_nat (m % 256) 128 (by omega) (by omega)
  rw [or_128 _ (by omega)] at h
  rw [show ((m : Int) % 256) = ((m % 256 : Nat) : Int) from by omega, show (128 : Int) = ((128 : Nat) : Int) from rfl, h]
  simp [UInt8.toNat_ofNat']
  omega

theorem low7 (m : Nat) (h : m < 128) : (m : Int) = ((UInt8.ofNat m).toNat : Int) := by
  simp [UInt8.toNat_ofNat']
  omega

/-- One byte more in a row of bytes. -/
theorem own_push {w1 : World} {B e k cap : Nat} {pre : List UInt8} {x : Int} {b : UInt8} (hx : x = (b.toNat : Int))
    (h : w1.ownsRow B e 1 (.slice (some ⟨B, 0, none⟩) (k + 1) cap) (k + 1) (pre.map bv ++ [.int .u8 x])) :
    w1.ownsRow B e 1 (.slice (some ⟨B, 0, none⟩) (k + 1) cap) (k + 1) ((pre ++ [b]).map bv) := by
  simpa [bv, hx] using h

/-- The text of a row of bytes that the call owns. -/
theorem own_text {w1 : World} {B k cap : Nat} {bs : List UInt8} (h : w1.ownsRow B 5 1 (.slice (some ⟨B, 0, none⟩) k cap) k (bs.map bv)) :
    (convert 129 9 (.slice (some ⟨B, 0, none⟩) k cap)).run Tryz.prog w1 = .ok (.string ⟨bs.toArray⟩) w1 := by
  have hl : bs.length = k := by have := h.1; simpa using this
  have e := run_convert_bytes_arg (P := Tryz.prog) w1 129 5 Tryz.underlying129 Tryz.underlying5 B 0 k cap (bs.map fun b => (b.toNat : Int)) (by simpa using hl) (fun i hi => by
    rw [Nat.zero_add, h.cellAt i (by omega)]
    have : i < bs.length := by omega
    simp [bv, this]) 9 Tryz.underlying9
  rw [e]
  simp [strOfNums, Function.comp_def]

theorem pow_step (k m : Nat) (h : m * 128 ^ k < 18446744073709551616) : m / 128 * 128 ^ (k + 1) < 18446744073709551616 := by
  have h1 : m / 128 * 128 ^ (k + 1) = m / 128 * 128 * 128 ^ k := by rw [Nat.pow_succ, Nat.mul_comm (128 ^ k) 128, Nat.mul_assoc]
  have h2 : m / 128 * 128 * 128 ^ k ≤ m * 128 ^ k := Nat.mul_le_mul_right _ (Nat.div_mul_le_self m 128)
  omega

theorem pow_nine (k m : Nat) (hk : k ≤ 9) (h : m * 128 ^ k < 18446744073709551616) (hm : 128 ≤ m) : k ≤ 8 := by
  rcases Nat.lt_or_ge k 9 with h9 | h9
  · omega
  · have : k = 9 := by omega
    subst this
    omega

theorem encF_step {pre : List UInt8} {k m : Nat} {l : List UInt8} (hk : k ≤ 8) (hm : 128 ≤ m) (h : pre ++ encF (9 - k) m = l) :
    (pre ++ [UInt8.ofNat (m % 128 + 128)]) ++ encF (9 - (k + 1)) (m / 128) = l := by
  rw [show 9 - k = (9 - (k + 1)) + 1 from by omega, encF_big _ _ hm] at h
  simpa using h

theorem encF_end {pre : List UInt8} {k m : Nat} {l : List UInt8} (hm : ¬ 128 ≤ m) (h : pre ++ encF (9 - k) m = l) : pre ++ [UInt8.ofNat m] = l := by
  rw [encF_small _ _ (by omega)] at h
  exact h

theorem below_append {B : Nat} {w wr w1 : World} {o : Obj} (h : Below B w wr) (hB : B = w.heap.size) (g : (wr.alloc o).grownBy w1 (some B)) : Below B w w1 := by
  subst hB
  exact (h.alloc h.size _).grown g (by have := h.size; simp; omega) (fun k hk => by cases hk; exact Nat.le_refl _)

set_option maxHeartbeats 800000 in
set_option maxRecDepth 100000 in
theorem put_any (n : Nat) (w : World) (hn : n < 18446744073709551616) :
    Calls Tryz.prog 90 #[.int .u64 (n : Int)] w fun e w' => e = .returned (.string ⟨(enc n).toArray⟩) ∧ Below w.heap.size w w' := by
  obtain ⟨i0, hi, hz0, hz1, hz2⟩ := info_parts Tryz.info5
  have HN : Hid (n < 18446744073709551616) := hn
  clear hn
  go_enter Tryz.func90, Tryz.ntmps90
  go_wp2_with (at_make; refine wpList_make_own _ rfl _ _ 129 rfl w.heap.size 5 i0 (.int .u8 0) 1 Tryz.underlying129 hi hz0 hz1 _ _ _ 10 rfl rfl (by omega) ?b2 ?b3 (Nat.le_refl _) ?_)
  case b2 => rw [hz2]; omega
  case b3 => unfold maxLen; omega
  intro w0 hown0 hgrow0
  go_wp2
  go_loopw [0, 3] (fun sn out wr => ∃ (k m : Nat) (pre : List UInt8), k ≤ 9 ∧ m * 128 ^ k < 18446744073709551616 ∧ sn = .int .u64 (m : Int) ∧ out = .slice (some ⟨w.heap.size, 0, none⟩) k 10 ∧
      wr.ownsRow w.heap.size 5 1 (.slice (some ⟨w.heap.size, 0, none⟩) k 10) k (pre.map bv) ∧ pre ++ encF (9 - k) m = enc n ∧ Below w.heap.size w wr)
    (fun sn _ _ => (intOf sn).toNat)
  case atStart => exact ⟨0, n, [], Nat.zero_le _, by simpa using HN.out, rfl, rfl, hown0, rfl, (Below.refl _ _).grown hgrow0 (Nat.le_refl _) (fun k h => by cases h)⟩
  case round =>
    obtain ⟨k, m, pre, hk, hm, rfl, rfl, hown, hx, hnx⟩ := hrel
    have HM : Hid (m * 128 ^ k < 18446744073709551616) := hm
    have HX : Hid (pre ++ encF (9 - k) m = enc n) := hx
    clear hm hx
    by_cases hge : 128 ≤ m
    · have hk8 := pow_nine k m hk HM.out hge
      go_wp2_with (at_builtin; refine wpList_append_fits _ rfl (.tmp 9) (.tmp 13) 129 rfl w.heap.size 5 i0 1 Tryz.underlying129 hi hz1 w.heap.size k 10 _ rfl (hown.alloc _) ⟨wr.heap.size, 0, none⟩ 1 1 [.int .u8 (bits .or .u8 ((m : Int) % 256) 128)] rfl rfl (by intro t u ht; match t, ht with | 0, ht => simp at ht; subst ht; simp [Addr.add]) (by intro u hu; simp at hu; subst hu; rfl) (by omega) ?_; intro w1 hown1 hgrow1)
      go_roundw
      case rel => exact ⟨k + 1, m / 128, pre ++ [UInt8.ofNat (m % 128 + 128)], by omega, pow_step k m HM.out, by go_num, rfl, own_push (or128 m) hown1, encF_step hk8 hge HX.out, below_append hnx rfl hgrow1⟩
      case measure => simp [intOf]; omega
    · have hl : m < 128 := by omega
      go_wp2_with (at_builtin; refine wpList_append_fits _ rfl (.tmp 15) (.tmp 18) 129 rfl w.heap.size 5 i0 1 Tryz.underlying129 hi hz1 w.heap.size k 10 _ rfl (hown.alloc _) ⟨wr.heap.size, 0, none⟩ 1 1 [.int .u8 (m : Int)] rfl rfl (by intro t u ht; match t, ht with | 0, ht => simp at ht; subst ht; simp [Addr.add]) (by intro u hu; simp at hu; subst hu; rfl) (by omega) ?_; intro w1 hown1 hgrow1; have hcv := own_text (own_push (low7 m hl) hown1))
      go_ret
      exact ⟨by rw [encF_end hge HX.out]; rfl, below_append hnx rfl hgrow1⟩

end Go.Proofs.YtkjioabhdglkpaaGreat

/- What was put is got, wherever it stands; what is got is put as it stood: of num. -/
import Derived.Test.YtndbhalkhejgjaaRefGetInt
namespace Go.Proofs.Ytndbhalkhejgjaa
open Go.RowKit

theorem add_data (a b : ByteArray) : (a ++ b).data.toList = a.data.toList ++ b.data.toList := by simp

theorem zag_zig (n : Int) : zag (zig n) = n := by
  unfold zag zig
  split <;> split <;> omega

theorem getAt_mid (a b c : ByteArray) (n : Nat) (hb : b = ba (enc n)) (hn : n < 18446744073709551616) : getAt (a ++ b ++ c).data.toList (a.size : Int) = (n, b.size, true) := by
  have hl : a.data.toList.length = a.size := by simp
  unfold getAt
  rw [add_data, add_data, if_pos ⟨by omega, by simp; omega⟩, Int.toNat_natCast, ← hl, List.append_assoc, List.drop_left]
  subst hb
  rw [show (ba (enc n)).data.toList = enc n from by simp [ba], dec_enc n _ hn, ba_size]

theorem get_mid (a b c : ByteArray) (n : Nat) (hb : b = ba (enc n)) (hn : n < 18446744073709551616) (w : World) :
    Calls Try.prog 51 #[.string (a ++ b ++ c), .int .i64 (a.size : Int)] w fun e w' => e = .returned (.tuple #[.int .u64 (n : Int), .int .i64 (b.size : Int), .bool true]) ∧ w' = w := by
  have h := get_any (a ++ b ++ c) (a.size : Int) w
  rw [getAt_mid a b c n hb hn] at h
  exact h

theorem getInt_mid (a b c : ByteArray) (n : Int) (hb : b = ba (enc (zig n))) (hn : -9223372036854775808 ≤ n ∧ n ≤ 9223372036854775807) (w : World) :
    Calls Try.prog 73 #[.string (a ++ b ++ c), .int .i64 (a.size : Int)] w fun e w' => e = .returned (.tuple #[.int .i64 n, .int .i64 (b.size : Int), .bool true]) ∧ w' = w := by
  have h := getInt_any (a ++ b ++ c) (a.size : Int) w
  rw [getAt_mid a b c (zig n) hb (zig_lt n hn.1 hn.2)] at h
  simp only [zag_zig] at h
  exact h

theorem getAt_back (l : List UInt8) (N j : Nat) (h : getAt l 0 = (N, j, true)) : 0 < j ∧ j ≤ 10 ∧ j ≤ l.length ∧ enc N = l.take j ∧ N < 18446744073709551616 := by
  unfold getAt at h
  rw [if_pos ⟨by omega, by omega⟩] at h
  exact dec_back l N j h

theorem take_text (s : ByteArray) (j N : Nat) (h : enc N = s.data.toList.take j) : s.extract 0 j = ba (enc N) := by
  have := cut_text2 s 0 j
  rw [Nat.zero_add] at this
  rw [this, List.drop_zero, h]

end Go.Proofs.Ytndbhalkhejgjaa

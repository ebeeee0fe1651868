/- The contracts of num.GetInt and num.GetText. -/
import Derived.Test.YtlapgalefpenbaaBack
import Derived.Test.YtlapgalefpenbaaPutInt
import Derived.Test.YtlapgalefpenbaaBase
import Derived.Test.YtlapgalefpenbaaClone
namespace Go.Proofs.Ytlapgalefpenbaa
open Go.RowKit

/-- A number without a sign as a signed one. -/
def zag (u : Nat) : Int := if u % 2 = 1 then -1 - (u / 2 : Nat) else (u / 2 : Nat)

theorem getAt_lt (l : List UInt8) (p : Int) : (getAt l p).1 < 18446744073709551616 := by
  unfold getAt
  split
  · cases h : (dec (l.drop p.toNat)).2.2 with
    | false => rw [dec_no _ h]; omega
    | true =>
      have := dec_back (l.drop p.toNat) (dec (l.drop p.toNat)).1 (dec (l.drop p.toNat)).2.1 (by rw [← h])
      exact this.2.2.2.2
  · omega

theorem and_one (N : Nat) (h : N < 18446744073709551616) : bits .and .u64 (N : Int) 1 = ((N % 2 : Nat) : Int) := by
  have := u64_and_nat N 1 h (by omega)
  rw [Nat.and_one_is_mod] at this
  exact this

theorem half (N : Nat) (h : N < 18446744073709551616) : wrap64 ((N : Int) / 2) = (N : Int) / 2 := by
  simp only [wrap64]
  omega

theorem not_half (N : Nat) (h : N < 18446744073709551616) : bits .xor .i64 (-1) (wrap64 ((N : Int) / 2)) = -1 - (N : Int) / 2 := by
  rw [half N h, not64 _ (by omega) (by omega)]

/-- The text that stands at a place. -/
def getTextAt (l : List UInt8) (p most : Int) : List UInt8 × Nat × Bool :=
  if (getAt l p).2.2 = true ∧ 0 ≤ most ∧ ((getAt l p).1 : Int) ≤ most ∧ (getAt l p).1 ≤ l.length - (p.toNat + (getAt l p).2.1) then
    ((l.drop (p.toNat + (getAt l p).2.1)).take (getAt l p).1, (getAt l p).2.1 + (getAt l p).1, true) else ([], 0, false)

theorem getAt_in (l : List UInt8) (p : Int) (h : (getAt l p).2.2 = true) : 0 ≤ p ∧ 1 ≤ (getAt l p).2.1 ∧ (getAt l p).2.1 ≤ 10 ∧ p.toNat + (getAt l p).2.1 ≤ l.length := by
  unfold getAt at *
  by_cases hp : 0 ≤ p ∧ p ≤ (l.length : Int)
  · rw [if_pos hp] at *
    have := dec_back (l.drop p.toNat) (dec (l.drop p.toNat)).1 (dec (l.drop p.toNat)).2.1 (by rw [← h])
    have h3 := this.2.2.1
    rw [List.length_drop] at h3
    exact ⟨hp.1, this.1, this.2.1, by omega⟩
  · rw [if_neg hp] at h
    simp at h

theorem cut_text (s : ByteArray) (a n : Nat) : (s.extract a s.size).extract 0 n = ba ((s.data.toList.drop a).take n) := by
  apply ByteArray.ext
  rw [← Array.toList_inj]
  rw [ByteArray.data_extract, Array.toList_extract, extract_drop]
  simp [ba, List.extract]

set_option maxHeartbeats 400000 in
set_option maxRecDepth 100000 in
theorem getText_any (s : ByteArray) (p most : Int) (w : World) (hs : s.size ≤ 281474976710656) (hm : -9223372036854775808 ≤ most ∧ most ≤ 9223372036854775807) :
    Calls Try.prog 74 #[.string s, .int .i64 p, .int .i64 most] w fun e w' =>
      e = .returned (.tuple #[.string (ba (getTextAt s.data.toList p most).1), .int .i64 ((getTextAt s.data.toList p most).2.1 : Int), .bool (getTextAt s.data.toList p most).2.2]) ∧ Below w.heap.size w w' := by
  have hg := get_any s p w
  have hlt := getAt_lt s.data.toList p
  have hin := getAt_in s.data.toList p
  have hl : s.data.toList.length = s.size := by simp
  unfold getTextAt
  rw [hl] at hin ⊢
  clear hl
  generalize getAt s.data.toList p = d at *
  obtain ⟨N, k, b⟩ := d
  simp only [gotV] at hg hlt hin ⊢
  cases b with
  | false =>
    simp only [Bool.false_eq_true, false_and, if_false]
    clear hlt hin hm hs
    go_enter Try.func74, Try.ntmps74
    go_wp2_with fail
    refine hg.mono ?_
    rintro e w1 ⟨rfl, rfl⟩
    go_wp2_with fail
    go_ret3
    exact ⟨rfl, Below.refl _ _⟩
  | true =>
    obtain ⟨hp0, hk1, hk2, hk3⟩ := hin rfl
    obtain ⟨P, rfl⟩ := Int.eq_ofNat_of_zero_le hp0
    simp only [Int.toNat_natCast] at *
    clear hin hp0
    by_cases h1 : 0 ≤ most
    · by_cases h2 : (N : Int) ≤ most
      · by_cases h3 : N ≤ s.size - (P + k)
        · rw [if_pos ⟨trivial, h1, h2, h3⟩]
          have hX := cut_text s (P + k) N
          have hXs : ((s.extract (P + k) s.size).extract 0 N).size ≤ 281474976710656 := by simp; omega
          have hC := fun w => clone_any ((s.extract (P + k) s.size).extract 0 N) w hXs
          rw [← hX]
          clear hX hXs
          go_enter Try.func74, Try.ntmps74
          go_wp2_with fail
          refine hg.mono ?_
          rintro e w1 ⟨rfl, rfl⟩
          go_wp2_with fail
          refine (hC w1).mono ?_
          rintro e w2 ⟨rfl, hb2⟩
          go_wp2_with fail
          go_ret3
          exact ⟨by simp, hb2⟩
        · rw [if_neg (by omega)]
          go_enter Try.func74, Try.ntmps74
          go_wp2_with fail
          refine hg.mono ?_
          rintro e w1 ⟨rfl, rfl⟩
          go_wp2_with fail
          go_ret3
          exact ⟨rfl, Below.refl _ _⟩
      · rw [if_neg (by omega)]
        go_enter Try.func74, Try.ntmps74
        go_wp2_with fail
        refine hg.mono ?_
        rintro e w1 ⟨rfl, rfl⟩
        go_wp2_with fail
        go_ret3
        exact ⟨rfl, Below.refl _ _⟩
    · rw [if_neg (by omega)]
      go_enter Try.func74, Try.ntmps74
      go_wp2_with fail
      refine hg.mono ?_
      rintro e w1 ⟨rfl, rfl⟩
      go_wp2_with fail
      go_ret3
      exact ⟨rfl, Below.refl _ _⟩

end Go.Proofs.Ytlapgalefpenbaa

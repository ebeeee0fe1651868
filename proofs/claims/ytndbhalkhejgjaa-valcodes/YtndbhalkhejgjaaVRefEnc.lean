/- The contracts of the document's Encode and Decode. -/
import Derived.Test.YtndbhalkhejgjaaVRef2
import Derived.Test.YtndbhalkhejgjaaVEncode
import Derived.Test.YtndbhalkhejgjaaVDecBase
import Derived.Test.YtndbhalkhejgjaaRefGetInt
namespace Go.Proofs.Ytndbhalkhejgjaa
open Go.RowKit

theorem getAt_rest (s : ByteArray) (p : Nat) (h : p ≤ s.size) : getAt (rest s p).data.toList 0 = getAt s.data.toList (p : Int) := by
  have hl : s.data.toList.length = s.size := by simp
  unfold getAt rest
  rw [extract_drop, if_pos ⟨by omega, by omega⟩, if_pos ⟨by omega, by omega⟩]
  simp

theorem getTextAt_rest (s : ByteArray) (p : Nat) (h : p ≤ s.size) (m : Int) : getTextAt (rest s p).data.toList 0 m = getTextAt s.data.toList (p : Int) m := by
  unfold getTextAt
  rw [getAt_rest s p h]
  have e : (rest s p).data.toList = s.data.toList.drop p := by unfold rest; rw [extract_drop]
  rw [e]
  simp only [Int.toNat_natCast, List.length_drop, List.drop_drop]
  rw [show (0 : Int).toNat = 0 from rfl, Nat.zero_add, Nat.sub_sub]

set_option maxHeartbeats 400000 in
theorem refEncode_no (v : V) (w : World) (hg : goodB v = false) (hb : blankB v = false) : Calls Try.prog 20 #[v.val] w fun e w' => e = .returned (.string (ba [])) ∧ Below w.heap.size w w' := by
  have c1 := fun w => refGood_any v w
  have c2 := fun w => refBlank_any v w
  rw [hg] at c1
  rw [hb] at c2
  clear hg hb
  obtain ⟨k, n, s⟩ := v
  simp only [V.val] at *
  go_enter Try.func20, Try.ntmps20
  go_wp2_with fail
  refine (c1 _).mono ?_
  rintro e w1 ⟨rfl, hb1⟩
  obtain ⟨hc1, _⟩ := bcell hb1
  go_wp2_with fail
  refine (c2 _).mono ?_
  rintro e w2 ⟨rfl, hb2⟩
  go_wp2_with fail
  go_ret
  exact ⟨rfl, below3 (below_alloc1 w _) hb1 hb2⟩

set_option maxHeartbeats 400000 in
set_option maxRecDepth 100000 in
theorem refEncode_0 (w : World) : Calls Try.prog 20 #[.agg #[.int .i64 0, .int .i64 0, .string ⟨#[]⟩]] w fun e w' => e = .returned (.string (ba [UInt8.ofNat 0])) ∧ Below w.heap.size w w' := by
  have c1 := fun w => refGood_any ⟨0, 0, ⟨#[]⟩⟩ w
  have c2 := fun w => refBlank_any ⟨0, 0, ⟨#[]⟩⟩ w
  rw [show goodB ⟨0, 0, ⟨#[]⟩⟩ = false from rfl] at c1
  rw [show blankB ⟨0, 0, ⟨#[]⟩⟩ = true from rfl] at c2
  simp only [V.val] at *
  go_enter Try.func20, Try.ntmps20
  go_wp2_with fail
  refine (c1 _).mono ?_
  rintro e w1 ⟨rfl, hb1⟩
  obtain ⟨hc1, _⟩ := bcell hb1
  go_wp2_with fail
  refine (c2 _).mono ?_
  rintro e w2 ⟨rfl, hb2⟩
  obtain ⟨hc2, _⟩ := bcell hb2
  have hz : w.heap.size < w1.heap.size := by have := hb1.size; simp at this; omega
  have hz2 : w.heap.size < w2.heap.size := by have := hb2.size; omega
  have HT := one_text (w2.alloc (.cells #[.int .u8 0] 5)) w2.heap.size (UInt8.ofNat 0) (by simp)
  go_wp2_with fail
  go_ret
  exact ⟨rfl, below2 (below3 (below_alloc1 w _) hb1 hb2) (below_alloc1 _ _)⟩

set_option maxHeartbeats 400000 in
set_option maxRecDepth 100000 in
theorem refEncode_1 (m : Nat) (hm : m ≤ 1) (w : World) : Calls Try.prog 20 #[.agg #[.int .i64 1, .int .i64 (m : Int), .string ⟨#[]⟩]] w fun e w' => e = .returned (.string (ba ([UInt8.ofNat 1] ++ [UInt8.ofNat m]))) ∧ Below w.heap.size w w' := by
  have c1 := fun w => refGood_any ⟨1, (m : Int), ⟨#[]⟩⟩ w
  have hg : goodB ⟨1, (m : Int), ⟨#[]⟩⟩ = true := by
    rcases Nat.le_one_iff_eq_zero_or_eq_one.1 hm with rfl | rfl <;> rfl
  rw [hg] at c1
  have hadd := fun W => run_add_ba [UInt8.ofNat 1] [UInt8.ofNat m] (by simp) W
  generalize ba ([UInt8.ofNat 1] ++ [UInt8.ofNat m]) = R at *
  simp only [V.val] at *
  have hbm := byte_low m (by omega)
  have hmb : (m : Int) % 256 = (m : Int) := by omega
  have hm1 : (m : Int) ≤ 1 := by omega
  clear hg hm
  go_enter Try.func20, Try.ntmps20
  go_wp2_with fail
  refine (c1 _).mono ?_
  rintro e w1 ⟨rfl, hb1⟩
  obtain ⟨hc1, _⟩ := bcell hb1
  have hz : w.heap.size < w1.heap.size := by have := hb1.size; simp at this; omega
  have HT := one_text (w1.alloc (.cells #[.int .u8 1] 5)) w1.heap.size (UInt8.ofNat 1) (by simp)
  have HT2 := one_text ((w1.alloc (.cells #[.int .u8 1] 5)).alloc (.cells #[.int .u8 (m : Int)] 5)) (w1.heap.size + 1) (UInt8.ofNat m) (by rw [hbm]; simp)
  clear hbm
  generalize ba [UInt8.ofNat m] = T at *
  generalize ba [UInt8.ofNat 1] = U at *
  go_wp2_with fail
  go_ret
  exact ⟨rfl, below2 (below2 (below_alloc1 w _) hb1) (below_two _ _ _)⟩

set_option maxHeartbeats 400000 in
set_option maxRecDepth 100000 in
theorem refEncode_2 (n : Int) (hn : -9223372036854775808 ≤ n ∧ n ≤ 9223372036854775807) (w : World) : Calls Try.prog 20 #[.agg #[.int .i64 2, .int .i64 n, .string ⟨#[]⟩]] w fun e w' => e = .returned (.string (ba ([UInt8.ofNat 2] ++ enc (zig n)))) ∧ Below w.heap.size w w' := by
  have c1 := fun w => refGood_any ⟨2, n, ⟨#[]⟩⟩ w
  rw [show goodB ⟨2, n, ⟨#[]⟩⟩ = true by simp [goodB]; rfl] at c1
  have hadd := fun W => run_add_ba [UInt8.ofNat 2] (enc (zig n)) (by have := (enc_len (zig n)).2; simp; omega) W
  have c2 := fun w => refPutInt_S n w _ rfl hn
  simp only [V.val] at *
  clear hn
  generalize ba ([UInt8.ofNat 2] ++ enc (zig n)) = R at *
  generalize ba (enc (zig n)) = T at *
  go_enter Try.func20, Try.ntmps20
  go_wp2_with fail
  refine (c1 _).mono ?_
  rintro e w1 ⟨rfl, hb1⟩
  obtain ⟨hc1, _⟩ := bcell hb1
  have hz : w.heap.size < w1.heap.size := by have := hb1.size; simp at this; omega
  have HT := one_text (w1.alloc (.cells #[.int .u8 2] 5)) w1.heap.size (UInt8.ofNat 2) (by simp)
  generalize ba [UInt8.ofNat 2] = U at *
  go_wp2_with fail
  refine (c2 _).mono ?_
  rintro e w2 ⟨rfl, hb2⟩
  go_wp2_with fail
  go_ret
  exact ⟨rfl, below2 (below3 (below_alloc1 w _) hb1 (below_alloc1 _ _)) hb2⟩

set_option maxHeartbeats 400000 in
set_option maxRecDepth 100000 in
theorem refEncode_3 (s : ByteArray) (hs : s.size ≤ 1024) (w : World) : Calls Try.prog 20 #[.agg #[.int .i64 3, .int .i64 0, .string s]] w fun e w' => e = .returned (.string (ba ([UInt8.ofNat 3] ++ putT s.data.toList))) ∧ Below w.heap.size w w' := by
  have c1 := fun w => refGood_any ⟨3, 0, s⟩ w
  rw [show goodB ⟨3, 0, s⟩ = true by simp [goodB, hs]] at c1
  have hadd := fun W => run_add_ba [UInt8.ofNat 3] (putT s.data.toList) (by have := putT_le s; simp only [List.length_singleton]; omega) W
  have c2 := fun w => refPutText_S s w _ rfl (by omega)
  simp only [V.val] at *
  clear hs
  generalize ba ([UInt8.ofNat 3] ++ putT s.data.toList) = R at *
  generalize ba (putT s.data.toList) = T at *
  go_enter Try.func20, Try.ntmps20
  go_wp2_with fail
  refine (c1 _).mono ?_
  rintro e w1 ⟨rfl, hb1⟩
  obtain ⟨hc1, _⟩ := bcell hb1
  have hz : w.heap.size < w1.heap.size := by have := hb1.size; simp at this; omega
  have HT := one_text (w1.alloc (.cells #[.int .u8 3] 5)) w1.heap.size (UInt8.ofNat 3) (by simp)
  generalize ba [UInt8.ofNat 3] = U at *
  go_wp2_with fail
  refine (c2 _).mono ?_
  rintro e w2 ⟨rfl, hb2⟩
  go_wp2_with fail
  go_ret
  exact ⟨rfl, below2 (below3 (below_alloc1 w _) hb1 (below_alloc1 _ _)) hb2⟩

theorem refEncode_any (v : V) (w : World) (hn : -9223372036854775808 ≤ v.n ∧ v.n ≤ 9223372036854775807) : Calls Try.prog 20 #[v.val] w fun e w' => e = .returned (.string (ba (encV v))) ∧ Below w.heap.size w w' := by
  cases hg : goodB v with
  | false =>
    cases hb : blankB v with
    | false =>
      rw [show encV v = [] by unfold encV; rw [hg, hb]; rfl]
      exact refEncode_no v w hg hb
    | true =>
      obtain ⟨k, n, s⟩ := v
      simp only [blankB, Bool.and_eq_true, decide_eq_true_eq] at hb
      obtain ⟨rfl, rfl, hs⟩ := hb
      obtain rfl := size_zero s hs
      exact refEncode_0 w
  | true =>
    have he : encV v = UInt8.ofNat v.k.toNat :: (if v.k = 1 then [UInt8.ofNat v.n.toNat] else if v.k = 2 then enc (zig v.n) else if v.k = 3 then putT v.s.data.toList else []) := by
      unfold encV
      rw [hg]
      rfl
    rw [he]
    obtain ⟨k, n, s⟩ := v
    simp only [V.val] at *
    simp only [goodB, Bool.or_eq_true, Bool.and_eq_true, decide_eq_true_eq] at hg
    rcases hg with (⟨rfl, h1, h2⟩ | ⟨rfl, h2⟩) | ⟨rfl, rfl, h2⟩
    · obtain rfl := size_zero s h2
      have h := refEncode_1 n.toNat (by omega) w
      rw [show ((n.toNat : Nat) : Int) = n by omega] at h
      exact h
    · obtain rfl := size_zero s h2
      exact refEncode_2 n hn w
    · exact refEncode_3 s h2 w

end Go.Proofs.Ytndbhalkhejgjaa

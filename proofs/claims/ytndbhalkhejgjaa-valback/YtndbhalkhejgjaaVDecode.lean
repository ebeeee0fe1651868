/- The contract of val.Decode. -/
import Derived.Test.YtndbhalkhejgjaaVDec0
import Derived.Test.YtndbhalkhejgjaaVDec1
import Derived.Test.YtndbhalkhejgjaaVDec2
import Derived.Test.YtndbhalkhejgjaaVDec3
namespace Go.Proofs.Ytndbhalkhejgjaa
open Go.RowKit
attribute [local go_sem ↓] Go.wp_at_zero Go.wp_at_succ

set_option maxHeartbeats 1600000 in
set_option maxRecDepth 100000 in
theorem decode_big (s : ByteArray) (p : Nat) (w : World) (hp : p < s.size) (c : Nat) (hc : bt s p = c) (h4 : 4 ≤ c) :
    Calls Try.prog 17 #[.string s, .int .i64 (p : Int)] w fun e w' => e = .returned (gotW (noV, 0, false)) ∧ Below w.heap.size w w' := by
  have cK := fun w => kinds_S (c : Int) w
  rw [kindV_no (c : Int) (by omega), show (decide ((0 : Int) ≤ (c : Int)) && decide ((c : Int) ≤ 3)) = false by rw [Bool.and_eq_false_iff, decide_eq_false_iff_not, decide_eq_false_iff_not]; omega] at cK
  have hb := bt_eq s p hp
  have hlt := bt_lt s p
  rw [hc] at hb hlt
  have hwc : IntKind.i64.wrap (c : Int) = (c : Int) := by rw [IntKind.wrap_i64]; omega
  have h0 : (0 : Int) ≤ (p : Int) := by omega
  have h1 : (p : Int) < (s.size : Int) := by omega
  clear hc h4 hlt
  go_enter Try.func17, Try.ntmps17
  go_upto_region 3 with fail
  go_cut [7, 6] (fun s7 s6 wx => ∃ b, s7 = .pointer (some ⟨b, 0, none⟩) ∧ s6 = .bool false ∧ AK (w.alloc (.cells #[.int .i64 0, .int .i64 0, .string ⟨#[]⟩] 23)) wx b .nilFunc .nilFunc .nilFunc)
  case first =>
    go_region_held3 (fun _ => True) (trivial) ((go_at_call 37; refine (cK _).mono ?_; rintro e w1 ⟨b, rfl, hb1, hz1, hl1, hl2⟩; obtain ⟨hc1, hf1⟩ := bcell hb1))
    all_goals go_wp2_with fail
    all_goals go_meet
    all_goals first | exact ⟨_, rfl, rfl, ak_late hb1⟩ | exact ⟨_, rfl, rfl, ak_early (by simp) hb1⟩
  case rest =>
    obtain ⟨b, rfl, rfl, hak⟩ := hcut
    have hb0 := hak.below
    obtain ⟨kc, kf⟩ := bcell hb0
    have k0 := kc w.heap.size 0 (by simp)
    have k1 := kc w.heap.size 1 (by simp)
    have k2 := kc w.heap.size 2 (by simp)
    have z0 := kf w.heap.size 0 (by simp)
    have z1 := kf w.heap.size 1 (by simp)
    have z2 := kf w.heap.size 2 (by simp)
    simp at k0 k1 k2 z0 z1 z2
    clear hak cK kc kf
    go_wp2_with fail
    exact bodyPost_ret (v := gotW (noV, 0, false)) (by simp [results, Try.results17, go_sem, gotW, noV, k0, k1, k2]) rfl ⟨rfl, below_set3 hb0 _ _ _⟩

set_option maxHeartbeats 800000 in
set_option maxRecDepth 100000 in
theorem decode_out (s : ByteArray) (p : Int) (w : World) (hp : p < 0 ∨ (s.size : Int) ≤ p) :
    Calls Try.prog 17 #[.string s, .int .i64 p] w fun e w' => e = .returned (gotW (noV, 0, false)) ∧ Below w.heap.size w w' := by
  rcases hp with h | h
  · go_enter Try.func17, Try.ntmps17
    go_wp2_with fail
    exact bodyPost_ret (v := gotW (noV, 0, false)) (by simp [results, Try.results17, go_sem, gotW, noV]) rfl ⟨rfl, below_alloc1 _ _⟩
  · have h0 : ¬ p < 0 := by omega
    go_enter Try.func17, Try.ntmps17
    go_wp2_with fail
    exact bodyPost_ret (v := gotW (noV, 0, false)) (by simp [results, Try.results17, go_sem, gotW, noV]) rfl ⟨rfl, below_alloc1 _ _⟩

theorem rest_size (s : ByteArray) (p : Nat) : (rest s p).size = s.size - p := by simp [rest]

theorem getAt_size (l : List UInt8) (p : Int) : (getAt l p).2.1 ≤ 10 := by
  cases h : (getAt l p).2.2 with
  | true => exact (getAt_in l p h).2.2.1
  | false => rw [getAt_no l p h]; exact Nat.zero_le _

theorem getTextAt_size (l : List UInt8) (p : Int) : (getTextAt l p 1024).2.1 ≤ 1034 := by
  unfold getTextAt
  have := getAt_size l p
  split
  · rename_i h
    show (getAt l p).2.1 + (getAt l p).1 ≤ 1034
    omega
  · exact Nat.zero_le _

theorem decode_any (s : ByteArray) (p : Int) (w : World) (hs : s.size ≤ 281474976710656) :
    Calls Try.prog 17 #[.string s, .int .i64 p] w fun e w' => e = .returned (gotW (decV s p)) ∧ Below w.heap.size w w' := by
  unfold decV
  by_cases hp : 0 ≤ p ∧ p < (s.size : Int)
  · rw [if_pos hp]
    obtain ⟨P, rfl⟩ := Int.eq_ofNat_of_zero_le hp.1
    have hP : P < s.size := by omega
    simp only [Int.toNat_natCast]
    have hrs : (rest s (P + 1)).size ≤ 281474976710656 := by rw [rest_size]; omega
    by_cases h0 : bt s P = 0
    · have h := decode_0 s P w hP hs h0 0 0 ⟨#[]⟩ 0 true (by omega) (fun w => getNone_any _ w)
      rw [h0]
      exact h
    by_cases h1 : bt s P = 1
    · rw [h1]
      by_cases hb : 0 < (rest s (P + 1)).size ∧ bt (rest s (P + 1)) 0 ≤ 1
      · have h := decode_1 s P w hP hs h1 1 _ ⟨#[]⟩ 1 true (by omega) (fun w => getBool_yes _ w _ rfl hb.1 hb.2)
        have hd : decK 1 (rest s (P + 1)) = (⟨1, (bt (rest s (P + 1)) 0 : Int), ⟨#[]⟩⟩, 1, true) := by
          unfold decK
          rw [if_neg (by omega), if_pos rfl, if_pos hb]
        rw [hd]
        exact h
      · have h := decode_1 s P w hP hs h1 0 0 ⟨#[]⟩ 0 false (by omega) (fun w => getBool_no _ w hb)
        have hd : decK 1 (rest s (P + 1)) = (noV, 0, false) := by
          unfold decK
          rw [if_neg (by omega), if_pos rfl, if_neg hb]
        rw [hd]
        exact h
    by_cases h2 : bt s P = 2
    · rw [h2]
      have h := decode_2 s P w hP hs h2 2 _ ⟨#[]⟩ _ _ (by have := getAt_size (rest s (P + 1)).data.toList 0; omega) (fun w => vgetInt_any _ w)
      cases hb : (getAt (rest s (P + 1)).data.toList 0).2.2 with
      | true =>
        have hd : decK 2 (rest s (P + 1)) = (⟨2, zag (getAt (rest s (P + 1)).data.toList 0).1, ⟨#[]⟩⟩, (getAt (rest s (P + 1)).data.toList 0).2.1, true) := by
          unfold decK
          rw [if_neg (by omega), if_neg (by omega), if_pos rfl, if_pos hb]
        rw [hb] at h
        rw [hd]
        exact h
      | false =>
        have hd : decK 2 (rest s (P + 1)) = (noV, 0, false) := by
          unfold decK
          rw [if_neg (by omega), if_neg (by omega), if_pos rfl, if_neg (by rw [hb]; simp)]
        rw [hb] at h
        rw [hd]
        exact h
    by_cases h3 : bt s P = 3
    · rw [h3]
      have h := decode_3 s P w hP hs h3 3 0 _ _ _ (by have := getTextAt_size (rest s (P + 1)).data.toList 0; omega) (fun w => vgetText_any _ w hrs)
      cases hb : (getTextAt (rest s (P + 1)).data.toList 0 1024).2.2 with
      | true =>
        have hd : decK 3 (rest s (P + 1)) = (⟨3, 0, ba (getTextAt (rest s (P + 1)).data.toList 0 1024).1⟩, (getTextAt (rest s (P + 1)).data.toList 0 1024).2.1, true) := by
          unfold decK
          rw [if_neg (by omega), if_neg (by omega), if_neg (by omega), if_pos rfl, if_pos hb]
        rw [hb] at h
        rw [hd]
        exact h
      | false =>
        have hd : decK 3 (rest s (P + 1)) = (noV, 0, false) := by
          unfold decK
          rw [if_neg (by omega), if_neg (by omega), if_neg (by omega), if_pos rfl, if_neg (by rw [hb]; simp)]
        rw [hb] at h
        rw [hd]
        exact h
    · have h := decode_big s P w hP _ rfl (by omega)
      have hd : decK (bt s P) (rest s (P + 1)) = (noV, 0, false) := by
        unfold decK
        rw [if_neg h0, if_neg h1, if_neg h2, if_neg h3]
      rw [hd]
      exact h
  · rw [if_neg hp]
    exact decode_out s p w (by omega)

end Go.Proofs.Ytndbhalkhejgjaa

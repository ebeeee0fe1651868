/- The contracts of val.Name and of the document's Name. -/
import Derived.Test.YtndbhalkhejgjaaVMath
import Derived.WalkKit
namespace Go.Proofs.Ytndbhalkhejgjaa
open Go.RowKit

set_option maxHeartbeats 400000 in
theorem letter_any (c : Nat) (b : Bool) (hb : letB c = b) (w : World) : Calls Try.prog 35 #[.int .u8 (c : Int)] w fun e w' => e = .returned (.bool b) ∧ w' = w := by
  unfold letB at hb
  by_cases h1 : 97 ≤ c
  · by_cases h2 : c ≤ 122
    · obtain rfl : b = true := by rw [← hb]; simp [h1, h2]
      clear hb
      have h1' : (97 : Int) ≤ (c : Int) := by omega
      have h2' : (c : Int) ≤ 122 := by omega
      go_enter Try.func35, Try.ntmps35
      go_wp2
      go_ret
      exact ⟨rfl, rfl⟩
    · obtain rfl : b = false := by rw [← hb]; simp [h1, h2]
      clear hb
      have h1' : (97 : Int) ≤ (c : Int) := by omega
      have h2' : ¬ (c : Int) ≤ 122 := by omega
      go_enter Try.func35, Try.ntmps35
      go_wp2
      go_ret
      exact ⟨rfl, rfl⟩
  · obtain rfl : b = false := by rw [← hb]; simp [h1]
    clear hb
    have h1' : ¬ (97 : Int) ≤ (c : Int) := by omega
    go_enter Try.func35, Try.ntmps35
    go_wp2
    go_ret
    exact ⟨rfl, rfl⟩

set_option maxHeartbeats 400000 in
theorem digit_any (c : Nat) (b : Bool) (hb : digB c = b) (w : World) : Calls Try.prog 36 #[.int .u8 (c : Int)] w fun e w' => e = .returned (.bool b) ∧ w' = w := by
  unfold digB at hb
  by_cases h1 : 48 ≤ c
  · by_cases h2 : c ≤ 57
    · obtain rfl : b = true := by rw [← hb]; simp [h1, h2]
      clear hb
      have h1' : (48 : Int) ≤ (c : Int) := by omega
      have h2' : (c : Int) ≤ 57 := by omega
      go_enter Try.func36, Try.ntmps36
      go_wp2
      go_ret
      exact ⟨rfl, rfl⟩
    · obtain rfl : b = false := by rw [← hb]; simp [h1, h2]
      clear hb
      have h1' : (48 : Int) ≤ (c : Int) := by omega
      have h2' : ¬ (c : Int) ≤ 57 := by omega
      go_enter Try.func36, Try.ntmps36
      go_wp2
      go_ret
      exact ⟨rfl, rfl⟩
  · obtain rfl : b = false := by rw [← hb]; simp [h1]
    clear hb
    have h1' : ¬ (48 : Int) ≤ (c : Int) := by omega
    go_enter Try.func36, Try.ntmps36
    go_wp2
    go_ret
    exact ⟨rfl, rfl⟩

set_option maxHeartbeats 800000 in
set_option maxRecDepth 100000 in
theorem name_long (s : ByteArray) (w : World) (h : s.size = 0 ∨ 16 < s.size) :
    Calls Try.prog 11 #[.string s] w fun e w' => e = .returned (.bool false) ∧ w' = w := by
  rcases h with h | h
  · obtain rfl := size_zero s h
    go_enter Try.func11, Try.ntmps11
    go_wp2
    go_ret
    exact ⟨rfl, rfl⟩
  · have h0 : (s.toList == []) = false := list_some s (by omega)
    go_enter Try.func11, Try.ntmps11
    go_wp2
    go_ret
    exact ⟨rfl, rfl⟩

set_option maxHeartbeats 800000 in
set_option maxRecDepth 100000 in
theorem name_first (s : ByteArray) (w : World) (h1 : 0 < s.size) (h2 : s.size ≤ 16) (h3 : letB (bt s 0) = false) :
    Calls Try.prog 11 #[.string s] w fun e w' => e = .returned (.bool false) ∧ w' = w := by
  have h0 : (s.toList == []) = false := list_some s (by omega)
  have hc := bt_eq s 0 h1
  have cl := fun w => letter_any (bt s 0) _ h3 w
  clear h3
  generalize bt s 0 = c at *
  have hq : ¬ (16 : Int) < (s.size : Int) := by omega
  go_enter Try.func11, Try.ntmps11
  go_wp2_with fail
  refine (cl _).mono ?_
  rintro e w1 ⟨rfl, rfl⟩
  go_wp2_with fail
  go_ret
  exact ⟨rfl, rfl⟩

set_option maxHeartbeats 800000 in
set_option maxRecDepth 100000 in
theorem name_in (s : ByteArray) (w : World) (h1 : 0 < s.size) (h2 : s.size ≤ 16) (h3 : letB (bt s 0) = true) :
    Calls Try.prog 11 #[.string s] w fun e w' => e = .returned (.bool (nameB s)) ∧ w' = w := by
  have h0 : (s.toList == []) = false := list_some s (by omega)
  have hc := bt_eq s 0 h1
  have cl := fun w => letter_any (bt s 0) _ h3 w
  have H3 : Hid (letB (bt s 0) = true) := h3
  clear h3
  have hq : ¬ (16 : Int) < (s.size : Int) := by omega
  go_enter Try.func11, Try.ntmps11
  go_wp2_with fail
  refine (cl _).mono ?_
  rintro e w1 ⟨rfl, rfl⟩
  go_wp2_with fail
  clear hc cl h0 hq
  go_loop [19] (fun si => ∃ k : Nat, k ≤ s.size ∧ si = .int .i64 (k : Int) ∧ Hid (okTo s k = true)) (fun si => s.size - (intOf si).toNat)
  case atStart => exact ⟨0, Nat.zero_le _, rfl, show okTo s 0 = true from rfl⟩
  case round =>
    obtain ⟨k, hk, rfl, HO⟩ := hrel
    by_cases hlt : k < s.size
    · have hc := bt_eq s k hlt
      have HF : Hid (k = 0 → letB (bt s k) = true) := by intro e; subst e; exact H3.out
      have HN : Hid (okb k (bt s k) = false → nameB s = false) := nameB_no s k hlt
      have HY : Hid (okb k (bt s k) = true → okTo s (k + 1) = true) := fun h => by rw [okTo, HO.out, h]; rfl
      clear H3
      generalize bt s k = c at *
      cases hl : letB c with
      | true =>
        have cl := fun w => letter_any c _ hl w
        have HL : Hid (letB c = true) := hl
        clear hl
        go_wp2_with fail
        refine (cl _).mono ?_
        rintro e w2 ⟨rfl, rfl⟩
        go_wp2_with fail
        go_round
        case rel => exact ⟨k + 1, by omega, by go_num, HY.out (by simp [okb, HL.out])⟩
        case measure => simp [intOf]; omega
      | false =>
        have cl := fun w => letter_any c _ hl w
        have HK : Hid (0 < k) := by
          rcases Nat.eq_zero_or_pos k with e | e
          · rw [HF.out e] at hl; cases hl
          · exact e
        have HL : Hid (letB c = false) := hl
        clear hl
        cases hd : digB c with
        | true =>
          have cd := fun w => digit_any c _ hd w
          have HD : Hid (digB c = true) := hd
          clear hd
          go_wp2_with fail
          refine (cl _).mono ?_
          rintro e w2 ⟨rfl, rfl⟩
          go_wp2_with fail
          refine (cd _).mono ?_
          rintro e w3 ⟨rfl, rfl⟩
          go_wp2_with fail
          go_round
          case rel => exact ⟨k + 1, by omega, by go_num, HY.out (by simp [okb, HL.out, HD.out, HK.out])⟩
          case measure => simp [intOf]; omega
        | false =>
          have cd := fun w => digit_any c _ hd w
          have HD : Hid (digB c = false) := hd
          clear hd
          by_cases hu : c = 95
          · subst hu
            go_wp2_with fail
            refine (cl _).mono ?_
            rintro e w2 ⟨rfl, rfl⟩
            go_wp2_with fail
            refine (cd _).mono ?_
            rintro e w3 ⟨rfl, rfl⟩
            go_wp2_with fail
            go_round
            case rel => exact ⟨k + 1, by omega, by go_num, HY.out (by simp [okb, HK.out])⟩
            case measure => simp [intOf]; omega
          · have hu' : ((c : Int) != 95) = true := by rw [bne_iff_ne]; omega
            have HU : Hid (¬ c = 95) := hu
            clear hu
            go_wp2_with fail
            refine (cl _).mono ?_
            rintro e w2 ⟨rfl, rfl⟩
            go_wp2_with fail
            refine (cd _).mono ?_
            rintro e w3 ⟨rfl, rfl⟩
            go_wp2_with fail
            go_ret
            exact ⟨by rw [HN.out (by simp [okb, HL.out, HD.out, HU.out])]; rfl, rfl⟩
    · obtain rfl : k = s.size := by omega
      go_wp2_with fail
      go_ret
      exact ⟨by rw [nameB_yes s h1 h2 HO.out]; rfl, rfl⟩

theorem name_any (s : ByteArray) (w : World) : Calls Try.prog 11 #[.string s] w fun e w' => e = .returned (.bool (nameB s)) ∧ w' = w := by
  by_cases h : s.size = 0 ∨ 16 < s.size
  · rw [nameB_size s h]
    exact name_long s w h
  · cases hl : letB (bt s 0) with
    | false =>
      rw [nameB_no s 0 (by omega) (by simp [okb, hl])]
      exact name_first s w (by omega) (by omega) hl
    | true => exact name_in s w (by omega) (by omega) hl

end Go.Proofs.Ytndbhalkhejgjaa

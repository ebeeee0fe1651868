/- The contracts of the document's Good, Name and Compare. -/
import Derived.Test.YtndbhalkhejgjaaVRef
namespace Go.Proofs.Ytndbhalkhejgjaa
open Go.RowKit

set_option maxHeartbeats 400000 in
theorem refGood_one (n : Int) (s : ByteArray) (w : World) : Calls Try.prog 14 #[.agg #[.int .i64 1, .int .i64 n, .string s]] w fun e w' =>
    e = .returned (.bool (goodB ⟨1, n, s⟩)) ∧ Below w.heap.size w w' := by
  by_cases h1 : n = 0 ∨ n = 1
  · by_cases h3 : s.size = 0
    · obtain rfl := size_zero s h3
      have hb : goodB ⟨1, n, ⟨#[]⟩⟩ = true := by unfold goodB; rcases h1 with rfl | rfl <;> rfl
      rw [hb]
      clear h3 hb
      rcases h1 with rfl | rfl
      all_goals
        go_enter Try.func14, Try.ntmps14
        go_wp2
        go_ret
        exact ⟨rfl, below_alloc1 _ _⟩
    · have h3' := list_some s h3
      have hb : goodB ⟨1, n, s⟩ = false := by unfold goodB; simp [h3]
      rw [hb]
      clear h3 hb
      rcases h1 with rfl | rfl
      all_goals
        go_enter Try.func14, Try.ntmps14
        go_wp2
        go_ret
        exact ⟨rfl, below_alloc1 _ _⟩
  · have h2 : (n == 0) = false := ne_beq (by omega)
    have h3 : (n == 1) = false := ne_beq (by omega)
    have hb : goodB ⟨1, n, s⟩ = false := by
      unfold goodB
      simp [show n ≠ 0 by omega, show n ≠ 1 by omega]
    rw [hb]
    clear h1 hb
    go_enter Try.func14, Try.ntmps14
    go_wp2
    go_ret
    exact ⟨rfl, below_alloc1 _ _⟩

set_option maxHeartbeats 400000 in
theorem refGood_two (n : Int) (s : ByteArray) (w : World) : Calls Try.prog 14 #[.agg #[.int .i64 2, .int .i64 n, .string s]] w fun e w' =>
    e = .returned (.bool (goodB ⟨2, n, s⟩)) ∧ Below w.heap.size w w' := by
  by_cases h3 : s.size = 0
  · obtain rfl := size_zero s h3
    have hb : goodB ⟨2, n, ⟨#[]⟩⟩ = true := by unfold goodB; simp; rfl
    rw [hb]
    clear h3 hb
    go_enter Try.func14, Try.ntmps14
    go_wp2
    go_ret
    exact ⟨rfl, below_alloc1 _ _⟩
  · have h3' := list_some s h3
    have hb : goodB ⟨2, n, s⟩ = false := by unfold goodB; simp [h3]
    rw [hb]
    clear h3 hb
    go_enter Try.func14, Try.ntmps14
    go_wp2
    go_ret
    exact ⟨rfl, below_alloc1 _ _⟩

set_option maxHeartbeats 400000 in
theorem refGood_three (n : Int) (s : ByteArray) (w : World) : Calls Try.prog 14 #[.agg #[.int .i64 3, .int .i64 n, .string s]] w fun e w' =>
    e = .returned (.bool (goodB ⟨3, n, s⟩)) ∧ Below w.heap.size w w' := by
  by_cases h1 : n = 0
  · subst h1
    by_cases h3 : s.size ≤ 1024
    · have h3' : (s.size : Int) ≤ 1024 := by omega
      have hb : goodB ⟨3, 0, s⟩ = true := by unfold goodB; simp [h3]
      rw [hb]
      clear h3 hb
      go_enter Try.func14, Try.ntmps14
      go_wp2
      go_ret
      exact ⟨rfl, below_alloc1 _ _⟩
    · have h3' : ¬ (s.size : Int) ≤ 1024 := by omega
      have hb : goodB ⟨3, 0, s⟩ = false := by unfold goodB; simp [h3]
      rw [hb]
      clear h3 hb
      go_enter Try.func14, Try.ntmps14
      go_wp2
      go_ret
      exact ⟨rfl, below_alloc1 _ _⟩
  · have h2 : (n == 0) = false := ne_beq h1
    have hb : goodB ⟨3, n, s⟩ = false := by unfold goodB; simp [h1]
    rw [hb]
    clear h1 hb
    go_enter Try.func14, Try.ntmps14
    go_wp2
    go_ret
    exact ⟨rfl, below_alloc1 _ _⟩

set_option maxHeartbeats 400000 in
theorem refGood_any (v : V) (w : World) : Calls Try.prog 14 #[v.val] w fun e w' => e = .returned (.bool (goodB v)) ∧ Below w.heap.size w w' := by
  obtain ⟨k, n, s⟩ := v
  simp only [V.val]
  by_cases h1 : k = 1
  · subst h1; exact refGood_one n s w
  by_cases h2 : k = 2
  · subst h2; exact refGood_two n s w
  by_cases h3 : k = 3
  · subst h3; exact refGood_three n s w
  have hb : goodB ⟨k, n, s⟩ = false := by unfold goodB; simp [h1, h2, h3]
  rw [hb]
  have e1 := ne_beq h1
  have e2 := ne_beq h2
  have e3 := ne_beq h3
  clear h1 h2 h3 hb
  go_enter Try.func14, Try.ntmps14
  go_wp2
  go_ret
  exact ⟨rfl, below_alloc1 _ _⟩

set_option maxHeartbeats 800000 in
set_option maxRecDepth 100000 in
theorem refName_any (s : ByteArray) (w : World) (hs : s.size ≤ 281474976710656) : Calls Try.prog 12 #[.string s] w fun e w' => e = .returned (.bool (nameB s)) ∧ w' = w := by
  by_cases h : s.size = 0 ∨ 16 < s.size
  · rw [nameB_size s h]
    rcases h with h | h
    · obtain rfl := size_zero s h
      clear hs h
      go_enter Try.func12, Try.ntmps12
      go_wp2
      go_ret
      exact ⟨rfl, rfl⟩
    · have h1 : ¬ (s.size : Int) < 1 := by omega
      have h2 : (16 : Int) < (s.size : Int) := by omega
      go_enter Try.func12, Try.ntmps12
      go_wp2
      go_ret
      exact ⟨rfl, rfl⟩
  · have h1 : ¬ (s.size : Int) < 1 := by omega
    have h2 : ¬ (16 : Int) < (s.size : Int) := by omega
    have H : Hid (1 ≤ s.size ∧ s.size ≤ 16) := by constructor <;> omega
    clear h hs
    go_enter Try.func12, Try.ntmps12
    go_wp2
    clear h1 h2
    go_loop [3] (fun si => ∃ k : Nat, k ≤ s.size ∧ si = .int .i64 (k : Int) ∧ Hid (okTo s k = true)) (fun si => s.size - (intOf si).toNat)
    case atStart => exact ⟨0, Nat.zero_le _, rfl, show okTo s 0 = true from rfl⟩
    case round =>
      obtain ⟨k, hk, rfl, HO⟩ := hrel
      by_cases hlt : k < s.size
      · have hc := bt_eq s k hlt
        have HN : Hid (okb k (bt s k) = false → nameB s = false) := nameB_no s k hlt
        have HY : Hid (okb k (bt s k) = true → okTo s (k + 1) = true) := fun h => by rw [okTo, HO.out, h]; rfl
        have hk16 : k < 16 := by have := H.out; omega
        generalize bt s k = c at *
        by_cases hl : 97 ≤ c ∧ c ≤ 122
        · have h5 : (97 : Int) ≤ (c : Int) := by omega
          have h6 : (c : Int) ≤ 122 := by omega
          have HL : Hid (okb k c = true) := by simp [Hid, okb, letB, hl]
          clear hl
          go_wp2
          go_round
          case rel => exact ⟨k + 1, by omega, by go_num, HY.out HL.out⟩
          case measure => simp [intOf]; omega
        · by_cases hp : 0 < k
          · by_cases hd : 48 ≤ c ∧ c ≤ 57
            · have h5 : ¬ (97 : Int) ≤ (c : Int) := by omega
              have h6 : (48 : Int) ≤ (c : Int) := by omega
              have h7 : (c : Int) ≤ 57 := by omega
              have HL : Hid (okb k c = true) := by simp [Hid, okb, digB, hd, hp]
              clear hl hd
              go_wp2
              go_round
              case rel => exact ⟨k + 1, by omega, by go_num, HY.out HL.out⟩
              case measure => simp [intOf]; omega
            · by_cases hu : c = 95
              · subst hu
                have HL : Hid (okb k 95 = true) := by simp [Hid, okb, hp]
                clear hl hd
                go_wp2
                go_round
                case rel => exact ⟨k + 1, by omega, by go_num, HY.out HL.out⟩
                case measure => simp [intOf]; omega
              · have HL : Hid (okb k c = false) := by simp [Hid, okb, letB, digB, hu]; omega
                have hu' : ((c : Int) == 95) = false := ne_beq (by omega)
                rcases Nat.lt_or_ge c 48 with g | g
                · have h5 : ¬ (97 : Int) ≤ (c : Int) := by omega
                  have h6 : ¬ (48 : Int) ≤ (c : Int) := by omega
                  clear hl hd hu g
                  go_wp2
                  go_ret
                  exact ⟨by rw [HN.out HL.out]; rfl, rfl⟩
                rcases Nat.lt_or_ge c 97 with g2 | g2
                · have h5 : ¬ (97 : Int) ≤ (c : Int) := by omega
                  have h6 : (48 : Int) ≤ (c : Int) := by omega
                  have h7 : ¬ (c : Int) ≤ 57 := by omega
                  clear hl hd hu g g2
                  go_wp2
                  go_ret
                  exact ⟨by rw [HN.out HL.out]; rfl, rfl⟩
                · have h5 : (97 : Int) ≤ (c : Int) := by omega
                  have h8 : ¬ (c : Int) ≤ 122 := by omega
                  have h6 : (48 : Int) ≤ (c : Int) := by omega
                  have h7 : ¬ (c : Int) ≤ 57 := by omega
                  clear hl hd hu g g2
                  go_wp2
                  go_ret
                  exact ⟨by rw [HN.out HL.out]; rfl, rfl⟩
          · obtain rfl : k = 0 := by omega
            have HL : Hid (okb 0 c = false) := by simp [Hid, okb, letB]; omega
            rcases Nat.lt_or_ge c 97 with g2 | g2
            · have h5 : ¬ (97 : Int) ≤ (c : Int) := by omega
              clear hl g2
              go_wp2
              go_ret
              exact ⟨by rw [HN.out HL.out]; rfl, rfl⟩
            · have h5 : (97 : Int) ≤ (c : Int) := by omega
              have h8 : ¬ (c : Int) ≤ 122 := by omega
              clear hl g2
              go_wp2
              go_ret
              exact ⟨by rw [HN.out HL.out]; rfl, rfl⟩
      · obtain rfl : k = s.size := by omega
        go_wp2
        go_ret
        exact ⟨by rw [nameB_yes s H.out.1 H.out.2 HO.out]; rfl, rfl⟩

end Go.Proofs.Ytndbhalkhejgjaa

/- The contracts of the document's own answers for GetInt, GetText. -/
import Derived.Test.YtndbhalkhejgjaaRefGet
import Derived.Laws.DeepStrings4
namespace Go.Proofs.Ytndbhalkhejgjaa
open Go.RowKit

theorem below_box {w w1 : World} {z o : Obj} (hb : Below (w.alloc z).heap.size (w.alloc z) w1) (a b c : Value) :
    Below w.heap.size w ((((w1.setCell ⟨w.heap.size, 0, none⟩ a).setCell ⟨w.heap.size, 1, none⟩ b).setCell ⟨w.heap.size, 2, none⟩ c).alloc o) := by
  have h1 : Below w.heap.size w w1 := ((Below.refl _ w).alloc (Nat.le_refl _) z).trans (hb.mono (by simp))
  have h2 := ((h1.setCell (p := ⟨w.heap.size, 0, none⟩) (Nat.le_refl _) a).setCell (p := ⟨w.heap.size, 1, none⟩) (Nat.le_refl _) b).setCell (p := ⟨w.heap.size, 2, none⟩) (Nat.le_refl _) c
  exact h2.alloc h2.size o

theorem getAt_no (l : List UInt8) (p : Int) (h : (getAt l p).2.2 = false) : getAt l p = (0, 0, false) := by
  unfold getAt at *
  split
  · rename_i hp
    rw [if_pos hp] at h
    exact dec_no _ h
  · rfl

set_option maxHeartbeats 400000 in
set_option maxRecDepth 100000 in
theorem refGetInt_any (s : ByteArray) (p : Int) (w : World) (hs : s.size ≤ 281474976710656) :
    Calls Try.prog 42 #[.string s, .int .i64 p] w fun e w' =>
      e = .returned (.agg #[.int .i64 (zag (getAt s.data.toList p).1), .int .i64 ((getAt s.data.toList p).2.1 : Int), .bool (getAt s.data.toList p).2.2]) ∧ Below w.heap.size w w' := by
  have hg := fun w => refGet_any s p w hs
  have hlt := getAt_lt s.data.toList p
  have hno : (getAt s.data.toList p).2.2 = false → getAt s.data.toList p = (0, 0, false) := getAt_no _ _
  generalize getAt s.data.toList p = d at *
  obtain ⟨N, k, b⟩ := d
  simp only [gotA] at hg hlt hno ⊢
  cases b with
  | false =>
    have h0 := hno rfl
    simp only [Prod.mk.injEq, and_true] at h0
    obtain ⟨rfl, rfl⟩ := h0
    rw [show zag 0 = 0 from rfl]
    clear hno hlt hs
    go_enter Try.func42, Try.ntmps42
    go_wp2_with fail
    refine (hg _).mono ?_
    rintro e w1 ⟨rfl, hb⟩
    obtain ⟨hc, hf⟩ := bcell hb
    have hz : w.heap.size < w1.heap.size := by have := hb.size; simp at this; omega
    go_wp2_with fail
    refine bodyPost_ret (v := .agg #[.int .i64 0, .int .i64 0, .bool false]) (by simp [results, Try.results42, go_sem, hc, hz]) rfl ⟨rfl, below_box hb _ _ _⟩
  | true =>
    clear hno hs
    have HL : Hid (N < 18446744073709551616) := hlt
    by_cases ho : N % 2 = 1
    · have hz : zag N = -1 - (N / 2 : Nat) := by unfold zag; rw [if_pos ho]
      rw [hz]
      clear hz
      have ho2 : ((N : Int) % 2 == 1) = true := by rw [beq_iff_eq]; omega
      go_enter Try.func42, Try.ntmps42
      go_wp2_with fail
      refine (hg _).mono ?_
      rintro e w1 ⟨rfl, hb⟩
      obtain ⟨hc, hf⟩ := bcell hb
      have hz : w.heap.size < w1.heap.size := by have := hb.size; simp at this; omega
      go_wp2_with fail
      exact bodyPost_ret (v := .agg #[.int .i64 (-((N : Int) / 2) - 1), .int .i64 (k : Int), .bool true]) (by simp [results, Try.results42, go_sem, hc, hz]) rfl ⟨by rw [show -((N : Int) / 2) - 1 = -1 - ((N / 2 : Nat) : Int) from by omega], below_box hb _ _ _⟩
    · have hz : zag N = (N / 2 : Nat) := by unfold zag; rw [if_neg ho]
      rw [hz]
      clear hz
      have ho2 : ((N : Int) % 2 == 1) = false := by rw [beq_eq_false_iff_ne]; omega
      go_enter Try.func42, Try.ntmps42
      go_wp2_with fail
      refine (hg _).mono ?_
      rintro e w1 ⟨rfl, hb⟩
      obtain ⟨hc, hf⟩ := bcell hb
      have hz : w.heap.size < w1.heap.size := by have := hb.size; simp at this; omega
      go_wp2_with fail
      exact bodyPost_ret (v := .agg #[.int .i64 ((N : Int) / 2), .int .i64 (k : Int), .bool true]) (by simp [results, Try.results42, go_sem, hc, hz]) rfl ⟨by rw [show (N : Int) / 2 = ((N / 2 : Nat) : Int) from by omega], below_box hb _ _ _⟩

theorem cut_text2 (s : ByteArray) (a n : Nat) : s.extract a (a + n) = ba ((s.data.toList.drop a).take n) := by
  apply ByteArray.ext
  rw [← Array.toList_inj, ByteArray.data_extract, Array.toList_extract]
  simp [ba, List.extract]

set_option maxHeartbeats 800000 in
set_option maxRecDepth 100000 in
theorem refGetText_any (s : ByteArray) (p most : Int) (w : World) (hs : s.size ≤ 281474976710656) (hm : -9223372036854775808 ≤ most ∧ most ≤ 9223372036854775807) :
    Calls Try.prog 43 #[.string s, .int .i64 p, .int .i64 most] w fun e w' =>
      e = .returned (.agg #[.string (ba (getTextAt s.data.toList p most).1), .int .i64 ((getTextAt s.data.toList p most).2.1 : Int), .bool (getTextAt s.data.toList p most).2.2]) ∧ Below w.heap.size w w' := by
  have hg := fun w => refGet_any s p w hs
  have hlt := getAt_lt s.data.toList p
  have hin := getAt_in s.data.toList p
  have hl : s.data.toList.length = s.size := by simp
  unfold getTextAt
  rw [hl] at hin ⊢
  clear hl
  generalize getAt s.data.toList p = d at *
  obtain ⟨N, k, b⟩ := d
  simp only [gotA] at hg hlt hin ⊢
  cases b with
  | false =>
    simp only [Bool.false_eq_true, false_and, if_false]
    clear hlt hin hm hs
    go_enter Try.func43, Try.ntmps43
    go_wp2_with fail
    refine (hg _).mono ?_
    rintro e w1 ⟨rfl, hb⟩
    obtain ⟨hc, hf⟩ := bcell hb
    have hz : w.heap.size < w1.heap.size := by have := hb.size; simp at this; omega
    go_wp2_with fail
    exact bodyPost_ret (v := .agg #[.string ⟨#[]⟩, .int .i64 0, .bool false]) (by simp [results, Try.results43, go_sem, hc, hz]) rfl ⟨rfl, below_box hb _ _ _⟩
  | true =>
    obtain ⟨hp0, hk1, hk2, hk3⟩ := hin rfl
    obtain ⟨P, rfl⟩ := Int.eq_ofNat_of_zero_le hp0
    simp only [Int.toNat_natCast] at *
    clear hin hp0
    by_cases h1 : 0 ≤ most
    · by_cases h2 : (N : Int) ≤ most
      · by_cases h3 : N ≤ s.size - (P + k)
        · rw [if_pos ⟨trivial, h1, h2, h3⟩]
          have hX := cut_text2 s (P + k) N
          rw [← hX]
          clear hX
          have hsl : ∀ W : World, (Instr.slice 9 (.string s) (some (.int .i64 ((P : Int) + (k : Int)))) (some (.int .i64 ((P : Int) + (k : Int) + (N : Int)))) none).run Try.prog W = .ok (.string (s.extract (P + k) (P + k + N))) W := by
            intro W
            rw [run_slice_string_if W 9 s .i64 .i64 _ _ Try.underlying9, if_pos (by omega), if_pos (by omega)]
            rw [show ((P : Int) + (k : Int)).toNat = P + k from by omega, show ((P : Int) + (k : Int) + (N : Int)).toNat = P + k + N from by omega]
          go_enter Try.func43, Try.ntmps43
          go_wp2_with fail
          refine (hg _).mono ?_
          rintro e w1 ⟨rfl, hb⟩
          obtain ⟨hc, hf⟩ := bcell hb
          have hz : w.heap.size < w1.heap.size := by have := hb.size; simp at this; omega
          go_wp2_with fail
          go_region
          go_wp2_with fail
          exact bodyPost_ret (v := .agg #[.string (s.extract (P + k) (P + k + N)), .int .i64 ((k : Int) + (N : Int)), .bool true]) (by simp [results, Try.results43, go_sem, hc, hz]) rfl ⟨by simp, (below_box hb _ _ _).drew⟩
        · rw [if_neg (by omega)]
          go_enter Try.func43, Try.ntmps43
          go_wp2_with fail
          refine (hg _).mono ?_
          rintro e w1 ⟨rfl, hb⟩
          obtain ⟨hc, hf⟩ := bcell hb
          have hz : w.heap.size < w1.heap.size := by have := hb.size; simp at this; omega
          go_wp2_with fail
          exact bodyPost_ret (v := .agg #[.string ⟨#[]⟩, .int .i64 0, .bool false]) (by simp [results, Try.results43, go_sem, hc, hz]) rfl ⟨rfl, below_box hb _ _ _⟩
      · rw [if_neg (by omega)]
        go_enter Try.func43, Try.ntmps43
        go_wp2_with fail
        refine (hg _).mono ?_
        rintro e w1 ⟨rfl, hb⟩
        obtain ⟨hc, hf⟩ := bcell hb
        have hz : w.heap.size < w1.heap.size := by have := hb.size; simp at this; omega
        go_wp2_with fail
        exact bodyPost_ret (v := .agg #[.string ⟨#[]⟩, .int .i64 0, .bool false]) (by simp [results, Try.results43, go_sem, hc, hz]) rfl ⟨rfl, below_box hb _ _ _⟩
    · rw [if_neg (by omega)]
      go_enter Try.func43, Try.ntmps43
      go_wp2_with fail
      refine (hg _).mono ?_
      rintro e w1 ⟨rfl, hb⟩
      obtain ⟨hc, hf⟩ := bcell hb
      have hz : w.heap.size < w1.heap.size := by have := hb.size; simp at this; omega
      go_wp2_with fail
      exact bodyPost_ret (v := .agg #[.string ⟨#[]⟩, .int .i64 0, .bool false]) (by simp [results, Try.results43, go_sem, hc, hz]) rfl ⟨rfl, below_box hb _ _ _⟩

end Go.Proofs.Ytndbhalkhejgjaa

/- The contract of val.Encode: the values that do not fit their kind. -/
import Derived.Test.YtndbhalkhejgjaaVKindAt
import Derived.Test.YtndbhalkhejgjaaVPuts
namespace Go.Proofs.Ytndbhalkhejgjaa
open Go.RowKit
attribute [local go_sem ↓] Go.wp_at_zero Go.wp_at_succ

set_option maxHeartbeats 1600000 in
set_option maxRecDepth 100000 in
theorem encode_no0 (n : Int) (s : ByteArray) (w : World) (h : (decide (n = 0) && decide (s.size = 0)) = false) :
    Calls Try.prog 19 #[.agg #[.int .i64 0, .int .i64 n, .string s]] w fun e w' => e = .returned (.string (ba [])) ∧ Below w.heap.size w w' := by
  have cK := fun w => kinds_S 0 w
  rw [show kindV 0 = .agg #[.func (.func 55) #[] #[], .func (.func 56) #[] #[], .func (.func 57) #[] #[]] from rfl, show (decide ((0 : Int) ≤ 0) && decide ((0 : Int) ≤ 3)) = true from rfl] at cK
  have HF := fun w => fitsNone_any 0 n s w false h
  clear h
  go_enter Try.func19, Try.ntmps19
  go_upto_region 1 with fail
  go_cut [3, 4] (fun s3 s4 wx => ∃ b, s3 = .pointer (some ⟨b, 0, none⟩) ∧ s4 = .bool true ∧ AK (w.alloc (.cells #[.int .i64 0, .int .i64 n, .string s] 23)) wx b (.func (.func 55) #[] #[]) (.func (.func 56) #[] #[]) (.func (.func 57) #[] #[]))
  case first =>
    go_region_held3 (fun W => W.cell? ⟨w.heap.size, 0, none⟩ = some (.int .i64 0)) (first | go_keep | (rw [hc1 _ _ (by simp; omega)]; simp) | (rw [hc1 _ _ (by simp)]; simp)) ((go_at_call 37; refine (cK _).mono ?_; rintro e w1 ⟨b, rfl, hb1, hz1, hl1, hl2⟩; obtain ⟨hc1, hf1⟩ := bcell hb1))
    all_goals go_wp2_with fail
    all_goals go_meet
    all_goals first | exact ⟨_, rfl, rfl, ak_late hb1⟩ | exact ⟨_, rfl, rfl, ak_early (by simp) hb1⟩
  case rest =>
    obtain ⟨b, rfl, rfl, hak⟩ := hcut
    have k0 := hak.below.cell (p := ⟨w.heap.size, 0, none⟩) (by simp)
    have k1 := hak.below.cell (p := ⟨w.heap.size, 1, none⟩) (by simp)
    have k2 := hak.below.cell (p := ⟨w.heap.size, 2, none⟩) (by simp)
    simp at k0 k1 k2
    have q0 := hak.c0
    have q1 := hak.c1
    have hb0 := hak.below
    have hlt := hak.lt
    have hsz : w.heap.size < wc.heap.size := by have := hb0.size; simp at this; omega
    clear hak cK
    go_wp2_with fail
    refine (HF _).mono ?_
    rintro e w2 ⟨rfl, hb2⟩
    go_wp2_with fail
    go_ret
    exact ⟨rfl, below3 (below_alloc1 w _) hb0 hb2⟩

set_option maxHeartbeats 1600000 in
set_option maxRecDepth 100000 in
theorem encode_no1 (n : Int) (s : ByteArray) (w : World) (h : ((decide (n = 0) || decide (n = 1)) && decide (s.size = 0)) = false) :
    Calls Try.prog 19 #[.agg #[.int .i64 1, .int .i64 n, .string s]] w fun e w' => e = .returned (.string (ba [])) ∧ Below w.heap.size w w' := by
  have cK := fun w => kinds_S 1 w
  rw [show kindV 1 = .agg #[.func (.func 58) #[] #[], .func (.func 59) #[] #[], .func (.func 60) #[] #[]] from rfl, show (decide ((0 : Int) ≤ 1) && decide ((1 : Int) ≤ 3)) = true from rfl] at cK
  have HF := fun w => fitsBool_any 1 n s w false h
  clear h
  go_enter Try.func19, Try.ntmps19
  go_upto_region 1 with fail
  go_cut [3, 4] (fun s3 s4 wx => ∃ b, s3 = .pointer (some ⟨b, 0, none⟩) ∧ s4 = .bool true ∧ AK (w.alloc (.cells #[.int .i64 1, .int .i64 n, .string s] 23)) wx b (.func (.func 58) #[] #[]) (.func (.func 59) #[] #[]) (.func (.func 60) #[] #[]))
  case first =>
    go_region_held3 (fun W => W.cell? ⟨w.heap.size, 0, none⟩ = some (.int .i64 1)) (first | go_keep | (rw [hc1 _ _ (by simp; omega)]; simp) | (rw [hc1 _ _ (by simp)]; simp)) ((go_at_call 37; refine (cK _).mono ?_; rintro e w1 ⟨b, rfl, hb1, hz1, hl1, hl2⟩; obtain ⟨hc1, hf1⟩ := bcell hb1))
    all_goals go_wp2_with fail
    all_goals go_meet
    all_goals first | exact ⟨_, rfl, rfl, ak_late hb1⟩ | exact ⟨_, rfl, rfl, ak_early (by simp) hb1⟩
  case rest =>
    obtain ⟨b, rfl, rfl, hak⟩ := hcut
    have k0 := hak.below.cell (p := ⟨w.heap.size, 0, none⟩) (by simp)
    have k1 := hak.below.cell (p := ⟨w.heap.size, 1, none⟩) (by simp)
    have k2 := hak.below.cell (p := ⟨w.heap.size, 2, none⟩) (by simp)
    simp at k0 k1 k2
    have q0 := hak.c0
    have q1 := hak.c1
    have hb0 := hak.below
    have hlt := hak.lt
    have hsz : w.heap.size < wc.heap.size := by have := hb0.size; simp at this; omega
    clear hak cK
    go_wp2_with fail
    refine (HF _).mono ?_
    rintro e w2 ⟨rfl, hb2⟩
    go_wp2_with fail
    go_ret
    exact ⟨rfl, below3 (below_alloc1 w _) hb0 hb2⟩

set_option maxHeartbeats 1600000 in
set_option maxRecDepth 100000 in
theorem encode_no2 (n : Int) (s : ByteArray) (w : World) (h : decide (s.size = 0) = false) :
    Calls Try.prog 19 #[.agg #[.int .i64 2, .int .i64 n, .string s]] w fun e w' => e = .returned (.string (ba [])) ∧ Below w.heap.size w w' := by
  have cK := fun w => kinds_S 2 w
  rw [show kindV 2 = .agg #[.func (.func 61) #[] #[], .func (.func 62) #[] #[], .func (.func 63) #[] #[]] from rfl, show (decide ((0 : Int) ≤ 2) && decide ((2 : Int) ≤ 3)) = true from rfl] at cK
  have HF := fun w => fitsInt_any 2 n s w false h
  clear h
  go_enter Try.func19, Try.ntmps19
  go_upto_region 1 with fail
  go_cut [3, 4] (fun s3 s4 wx => ∃ b, s3 = .pointer (some ⟨b, 0, none⟩) ∧ s4 = .bool true ∧ AK (w.alloc (.cells #[.int .i64 2, .int .i64 n, .string s] 23)) wx b (.func (.func 61) #[] #[]) (.func (.func 62) #[] #[]) (.func (.func 63) #[] #[]))
  case first =>
    go_region_held3 (fun W => W.cell? ⟨w.heap.size, 0, none⟩ = some (.int .i64 2)) (first | go_keep | (rw [hc1 _ _ (by simp; omega)]; simp) | (rw [hc1 _ _ (by simp)]; simp)) ((go_at_call 37; refine (cK _).mono ?_; rintro e w1 ⟨b, rfl, hb1, hz1, hl1, hl2⟩; obtain ⟨hc1, hf1⟩ := bcell hb1))
    all_goals go_wp2_with fail
    all_goals go_meet
    all_goals first | exact ⟨_, rfl, rfl, ak_late hb1⟩ | exact ⟨_, rfl, rfl, ak_early (by simp) hb1⟩
  case rest =>
    obtain ⟨b, rfl, rfl, hak⟩ := hcut
    have k0 := hak.below.cell (p := ⟨w.heap.size, 0, none⟩) (by simp)
    have k1 := hak.below.cell (p := ⟨w.heap.size, 1, none⟩) (by simp)
    have k2 := hak.below.cell (p := ⟨w.heap.size, 2, none⟩) (by simp)
    simp at k0 k1 k2
    have q0 := hak.c0
    have q1 := hak.c1
    have hb0 := hak.below
    have hlt := hak.lt
    have hsz : w.heap.size < wc.heap.size := by have := hb0.size; simp at this; omega
    clear hak cK
    go_wp2_with fail
    refine (HF _).mono ?_
    rintro e w2 ⟨rfl, hb2⟩
    go_wp2_with fail
    go_ret
    exact ⟨rfl, below3 (below_alloc1 w _) hb0 hb2⟩

set_option maxHeartbeats 1600000 in
set_option maxRecDepth 100000 in
theorem encode_no3 (n : Int) (s : ByteArray) (w : World) (h : (decide (n = 0) && decide (s.size ≤ 1024)) = false) :
    Calls Try.prog 19 #[.agg #[.int .i64 3, .int .i64 n, .string s]] w fun e w' => e = .returned (.string (ba [])) ∧ Below w.heap.size w w' := by
  have cK := fun w => kinds_S 3 w
  rw [show kindV 3 = .agg #[.func (.func 64) #[] #[], .func (.func 65) #[] #[], .func (.func 66) #[] #[]] from rfl, show (decide ((0 : Int) ≤ 3) && decide ((3 : Int) ≤ 3)) = true from rfl] at cK
  have HF := fun w => fitsText_any 3 n s w false h
  clear h
  go_enter Try.func19, Try.ntmps19
  go_upto_region 1 with fail
  go_cut [3, 4] (fun s3 s4 wx => ∃ b, s3 = .pointer (some ⟨b, 0, none⟩) ∧ s4 = .bool true ∧ AK (w.alloc (.cells #[.int .i64 3, .int .i64 n, .string s] 23)) wx b (.func (.func 64) #[] #[]) (.func (.func 65) #[] #[]) (.func (.func 66) #[] #[]))
  case first =>
    go_region_held3 (fun W => W.cell? ⟨w.heap.size, 0, none⟩ = some (.int .i64 3)) (first | go_keep | (rw [hc1 _ _ (by simp; omega)]; simp) | (rw [hc1 _ _ (by simp)]; simp)) ((go_at_call 37; refine (cK _).mono ?_; rintro e w1 ⟨b, rfl, hb1, hz1, hl1, hl2⟩; obtain ⟨hc1, hf1⟩ := bcell hb1))
    all_goals go_wp2_with fail
    all_goals go_meet
    all_goals first | exact ⟨_, rfl, rfl, ak_late hb1⟩ | exact ⟨_, rfl, rfl, ak_early (by simp) hb1⟩
  case rest =>
    obtain ⟨b, rfl, rfl, hak⟩ := hcut
    have k0 := hak.below.cell (p := ⟨w.heap.size, 0, none⟩) (by simp)
    have k1 := hak.below.cell (p := ⟨w.heap.size, 1, none⟩) (by simp)
    have k2 := hak.below.cell (p := ⟨w.heap.size, 2, none⟩) (by simp)
    simp at k0 k1 k2
    have q0 := hak.c0
    have q1 := hak.c1
    have hb0 := hak.below
    have hlt := hak.lt
    have hsz : w.heap.size < wc.heap.size := by have := hb0.size; simp at this; omega
    clear hak cK
    go_wp2_with fail
    refine (HF _).mono ?_
    rintro e w2 ⟨rfl, hb2⟩
    go_wp2_with fail
    go_ret
    exact ⟨rfl, below3 (below_alloc1 w _) hb0 hb2⟩

set_option maxHeartbeats 1600000 in
set_option maxRecDepth 100000 in
theorem encode_none (c n : Int) (s : ByteArray) (w : World) (hc : c < 0 ∨ 3 < c) :
    Calls Try.prog 19 #[.agg #[.int .i64 c, .int .i64 n, .string s]] w fun e w' => e = .returned (.string (ba [])) ∧ Below w.heap.size w w' := by
  have cK := fun w => kinds_S c w
  rw [kindV_no c hc, show (decide ((0 : Int) ≤ c) && decide ((c : Int) ≤ 3)) = false by rw [Bool.and_eq_false_iff, decide_eq_false_iff_not, decide_eq_false_iff_not]; omega] at cK
  clear hc
  go_enter Try.func19, Try.ntmps19
  go_upto_region 1 with fail
  go_cut [3, 4] (fun s3 s4 wx => ∃ b, s3 = .pointer (some ⟨b, 0, none⟩) ∧ s4 = .bool false ∧ AK (w.alloc (.cells #[.int .i64 c, .int .i64 n, .string s] 23)) wx b .nilFunc .nilFunc .nilFunc)
  case first =>
    go_region_held3 (fun W => W.cell? ⟨w.heap.size, 0, none⟩ = some (.int .i64 c)) (first | go_keep | (rw [hc1 _ _ (by simp; omega)]; simp) | (rw [hc1 _ _ (by simp)]; simp)) ((go_at_call 37; refine (cK _).mono ?_; rintro e w1 ⟨b, rfl, hb1, hz1, hl1, hl2⟩; obtain ⟨hc1, hf1⟩ := bcell hb1))
    all_goals go_wp2_with fail
    all_goals go_meet
    all_goals first | exact ⟨_, rfl, rfl, ak_late hb1⟩ | exact ⟨_, rfl, rfl, ak_early (by simp) hb1⟩
  case rest =>
    obtain ⟨b, rfl, rfl, hak⟩ := hcut
    have hb0 := hak.below
    clear hak cK
    go_wp2_with fail
    go_ret
    exact ⟨rfl, below2 (below_alloc1 w _) hb0⟩

end Go.Proofs.Ytndbhalkhejgjaa

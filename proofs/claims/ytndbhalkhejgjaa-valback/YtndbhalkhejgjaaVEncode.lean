/- The contract of val.Encode. -/
import Derived.Test.YtndbhalkhejgjaaVEncNo
namespace Go.Proofs.Ytndbhalkhejgjaa
open Go.RowKit
attribute [local go_sem ↓] Go.wp_at_zero Go.wp_at_succ

theorem run_add_ba (a b : List UInt8) (h : a.length + b.length ≤ 9223372036854775807) (W : World) : (Op.stringOp .add (ba a) (ba b)).run Try.prog W = .ok (.string (ba (a ++ b))) W := by
  rw [run_string_add_sum (P := Try.prog) W _ _ (by rw [ba_size, ba_size]; exact h)]
  unfold ba
  rw [ByteArray.mk_append_mk]

theorem drew_belowE {a b : World} (h : Below a.drew.heap.size a.drew b) : Below a.heap.size a b := ((Below.refl _ a).drew).trans h

theorem putT_le (s : ByteArray) : (putT s.data.toList).length ≤ 10 + s.size := by
  unfold putT
  have := (enc_len s.data.toList.length).2
  have hl : s.data.toList.length = s.size := by simp
  rw [List.length_append]
  omega

set_option maxHeartbeats 1600000 in
set_option maxRecDepth 100000 in
theorem encode_yes0 (n : Int) (s : ByteArray) (w : World) (h : (decide (n = 0) && decide (s.size = 0)) = true) :
    Calls Try.prog 19 #[.agg #[.int .i64 0, .int .i64 n, .string s]] w fun e w' => e = .returned (.string (ba ([UInt8.ofNat 0] ++ []))) ∧ Below w.heap.size w w' := by
  have cK := fun w => kinds_S 0 w
  rw [show kindV 0 = .agg #[.func (.func 55) #[] #[], .func (.func 56) #[] #[], .func (.func 57) #[] #[]] from rfl, show (decide ((0 : Int) ≤ 0) && decide ((0 : Int) ≤ 3)) = true from rfl] at cK
  have HF := fun w => fitsNone_any 0 n s w true h
  have HP := fun w => putNone_any 0 n s w
  have hadd := fun W => run_add_ba [UInt8.ofNat 0] [] (by simp) W
  have HO : ∀ w, Calls Try.prog 44 #[.int .i64 0] w fun e w' => e = .returned (.string (ba [UInt8.ofNat 0])) ∧ Below w.heap.size w w' := fun w => oneByte_any 0 (by omega) w
  clear h
  generalize ba ([UInt8.ofNat 0] ++ []) = R at *
  generalize ba ([]) = T at *
  generalize ba [UInt8.ofNat 0] = U at *
  go_enter Try.func19, Try.ntmps19
  go_upto_region 1 with fail
  go_cut [3, 4] (fun s3 s4 wx => ∃ b, s3 = .pointer (some ⟨b, 0, none⟩) ∧ s4 = .bool true ∧ AK (w.alloc (.cells #[.int .i64 0, .int .i64 n, .string s] 23)) wx b (.func (.func 55) #[] #[]) (.func (.func 56) #[] #[]) (.func (.func 57) #[] #[]))
  case first =>
    go_region_held3 (fun W => W.cell? ⟨w.heap.size, 0, none⟩ = some (.int .i64 0)) (first | go_keep | (rw [hc1 _ _ (by simp; omega)]; simp) | (rw [hc1 _ _ (by simp)]; simp)) ((go_at_call 37; refine (cK _).mono ?_; rintro e w1 ⟨b, rfl, hb1, hz1, hl1, hl2⟩; obtain ⟨hc1, hf1⟩ := bcell hb1))
    all_goals go_wp2_with fail
    all_goals go_meet
    all_goals first | exact ⟨_, rfl, rfl, ak_late hb1⟩ | exact ⟨_, rfl, rfl, ak_early (by simp) hb1⟩
  case rest =>
    obtain ⟨b, rfl, rfl, hak⟩ := hcut
    have k0 := hak.below.cell (p := ⟨w.heap.size, 0, none⟩) (by simp)
    have k1 := hak.below.cell (p := ⟨w.heap.size, 1, none⟩) (by simp)
    have k2 := hak.below.cell (p := ⟨w.heap.size, 2, none⟩) (by simp)
    simp at k0 k1 k2
    have q0 := hak.c0
    have q1 := hak.c1
    have hb0 := hak.below
    have hlt := hak.lt
    have hsz : w.heap.size < wc.heap.size := by have := hb0.size; simp at this; omega
    clear hak cK
    go_wp2_with fail
    refine (HF _).mono ?_
    rintro e w2 ⟨rfl, hb2⟩
    obtain ⟨hc2, _⟩ := bcell hb2
    have k0' := (hc2 _ 0 hsz).trans k0
    have k1' := (hc2 _ 1 hsz).trans k1
    have k2' := (hc2 _ 2 hsz).trans k2
    have q1' := (hc2 _ 1 hlt).trans q1
    have hsz2 : w.heap.size < w2.heap.size := by have := hb2.size; omega
    have hlt2 : b < w2.heap.size := by have := hb2.size; omega
    have h2 : Below w.heap.size w w2 := below3 (below_alloc1 w _) hb0 hb2
    clear hc2 k0 k1 k2 q0 q1 HF hlt hsz hb0 hb2
    go_wp2_with fail
    go_region_held3 (fun W => W.cell? ⟨w.heap.size, 0, none⟩ = some (.int .i64 0) ∧ W.cell? ⟨w.heap.size, 1, none⟩ = some (.int .i64 n) ∧ W.cell? ⟨w.heap.size, 2, none⟩ = some (.string s) ∧ W.cell? ⟨b, 1, none⟩ = some (.func (.func 56) #[] #[]))
      (first | exact ⟨(hB.cell (p := ⟨w.heap.size, 0, none⟩) hsz2).trans k0', (hB.cell (p := ⟨w.heap.size, 1, none⟩) hsz2).trans k1', (hB.cell (p := ⟨w.heap.size, 2, none⟩) hsz2).trans k2', (hB.cell (p := ⟨b, 1, none⟩) hlt2).trans q1'⟩ | go_keep)
      ((first | (go_at_call 44; refine (HO _).mono ?_; rintro e wO ⟨rfl, hbO⟩; first | have hB := drew_belowE hbO | have hB := below2 hB hbO) | (go_at_call 56; refine (HP _).mono ?_; rintro e wP ⟨rfl, hbP⟩; first | have hB := drew_belowE hbP | have hB := below2 hB hbP)))
    all_goals go_wp2_with fail
    all_goals go_ret
    all_goals exact ⟨rfl, below2 h2 hB⟩

set_option maxHeartbeats 1600000 in
set_option maxRecDepth 100000 in
theorem encode_yes1 (m : Nat) (hm : m ≤ 1) (s : ByteArray) (w : World) (h : ((decide ((m : Int) = 0) || decide ((m : Int) = 1)) && decide (s.size = 0)) = true) :
    Calls Try.prog 19 #[.agg #[.int .i64 1, .int .i64 (m : Int), .string s]] w fun e w' => e = .returned (.string (ba ([UInt8.ofNat 1] ++ [UInt8.ofNat m]))) ∧ Below w.heap.size w w' := by
  have cK := fun w => kinds_S 1 w
  rw [show kindV 1 = .agg #[.func (.func 58) #[] #[], .func (.func 59) #[] #[], .func (.func 60) #[] #[]] from rfl, show (decide ((0 : Int) ≤ 1) && decide ((1 : Int) ≤ 3)) = true from rfl] at cK
  have HF := fun w => fitsBool_any 1 (m : Int) s w true h
  have HP := fun w => putBool_any 1 m (by omega) s w
  have hadd := fun W => run_add_ba [UInt8.ofNat 1] [UInt8.ofNat m] (by simp) W
  have HO : ∀ w, Calls Try.prog 44 #[.int .i64 1] w fun e w' => e = .returned (.string (ba [UInt8.ofNat 1])) ∧ Below w.heap.size w w' := fun w => oneByte_any 1 (by omega) w
  clear h hm
  generalize ba ([UInt8.ofNat 1] ++ [UInt8.ofNat m]) = R at *
  generalize ba ([UInt8.ofNat m]) = T at *
  generalize ba [UInt8.ofNat 1] = U at *
  go_enter Try.func19, Try.ntmps19
  go_upto_region 1 with fail
  go_cut [3, 4] (fun s3 s4 wx => ∃ b, s3 = .pointer (some ⟨b, 0, none⟩) ∧ s4 = .bool true ∧ AK (w.alloc (.cells #[.int .i64 1, .int .i64 (m : Int), .string s] 23)) wx b (.func (.func 58) #[] #[]) (.func (.func 59) #[] #[]) (.func (.func 60) #[] #[]))
  case first =>
    go_region_held3 (fun W => W.cell? ⟨w.heap.size, 0, none⟩ = some (.int .i64 1)) (first | go_keep | (rw [hc1 _ _ (by simp; omega)]; simp) | (rw [hc1 _ _ (by simp)]; simp)) ((go_at_call 37; refine (cK _).mono ?_; rintro e w1 ⟨b, rfl, hb1, hz1, hl1, hl2⟩; obtain ⟨hc1, hf1⟩ := bcell hb1))
    all_goals go_wp2_with fail
    all_goals go_meet
    all_goals first | exact ⟨_, rfl, rfl, ak_late hb1⟩ | exact ⟨_, rfl, rfl, ak_early (by simp) hb1⟩
  case rest =>
    obtain ⟨b, rfl, rfl, hak⟩ := hcut
    have k0 := hak.below.cell (p := ⟨w.heap.size, 0, none⟩) (by simp)
    have k1 := hak.below.cell (p := ⟨w.heap.size, 1, none⟩) (by simp)
    have k2 := hak.below.cell (p := ⟨w.heap.size, 2, none⟩) (by simp)
    simp at k0 k1 k2
    have q0 := hak.c0
    have q1 := hak.c1
    have hb0 := hak.below
    have hlt := hak.lt
    have hsz : w.heap.size < wc.heap.size := by have := hb0.size; simp at this; omega
    clear hak cK
    go_wp2_with fail
    refine (HF _).mono ?_
    rintro e w2 ⟨rfl, hb2⟩
    obtain ⟨hc2, _⟩ := bcell hb2
    have k0' := (hc2 _ 0 hsz).trans k0
    have k1' := (hc2 _ 1 hsz).trans k1
    have k2' := (hc2 _ 2 hsz).trans k2
    have q1' := (hc2 _ 1 hlt).trans q1
    have hsz2 : w.heap.size < w2.heap.size := by have := hb2.size; omega
    have hlt2 : b < w2.heap.size := by have := hb2.size; omega
    have h2 : Below w.heap.size w w2 := below3 (below_alloc1 w _) hb0 hb2
    clear hc2 k0 k1 k2 q0 q1 HF hlt hsz hb0 hb2
    go_wp2_with fail
    go_region_held3 (fun W => W.cell? ⟨w.heap.size, 0, none⟩ = some (.int .i64 1) ∧ W.cell? ⟨w.heap.size, 1, none⟩ = some (.int .i64 (m : Int)) ∧ W.cell? ⟨w.heap.size, 2, none⟩ = some (.string s) ∧ W.cell? ⟨b, 1, none⟩ = some (.func (.func 59) #[] #[]))
      (first | exact ⟨(hB.cell (p := ⟨w.heap.size, 0, none⟩) hsz2).trans k0', (hB.cell (p := ⟨w.heap.size, 1, none⟩) hsz2).trans k1', (hB.cell (p := ⟨w.heap.size, 2, none⟩) hsz2).trans k2', (hB.cell (p := ⟨b, 1, none⟩) hlt2).trans q1'⟩ | go_keep)
      ((first | (go_at_call 44; refine (HO _).mono ?_; rintro e wO ⟨rfl, hbO⟩; first | have hB := drew_belowE hbO | have hB := below2 hB hbO) | (go_at_call 59; refine (HP _).mono ?_; rintro e wP ⟨rfl, hbP⟩; first | have hB := drew_belowE hbP | have hB := below2 hB hbP)))
    all_goals go_wp2_with fail
    all_goals go_ret
    all_goals exact ⟨rfl, below2 h2 hB⟩

set_option maxHeartbeats 1600000 in
set_option maxRecDepth 100000 in
theorem encode_yes2 (n : Int) (s : ByteArray) (w : World) (hn : -9223372036854775808 ≤ n ∧ n ≤ 9223372036854775807) (h : decide (s.size = 0) = true) :
    Calls Try.prog 19 #[.agg #[.int .i64 2, .int .i64 n, .string s]] w fun e w' => e = .returned (.string (ba ([UInt8.ofNat 2] ++ enc (zig n)))) ∧ Below w.heap.size w w' := by
  have cK := fun w => kinds_S 2 w
  rw [show kindV 2 = .agg #[.func (.func 61) #[] #[], .func (.func 62) #[] #[], .func (.func 63) #[] #[]] from rfl, show (decide ((0 : Int) ≤ 2) && decide ((2 : Int) ≤ 3)) = true from rfl] at cK
  have HF := fun w => fitsInt_any 2 n s w true h
  have HP := fun w => vputInt_any 2 n s w hn
  have hadd := fun W => run_add_ba [UInt8.ofNat 2] (enc (zig n)) (by have := (enc_len (zig n)).2; simp; omega) W
  have HO : ∀ w, Calls Try.prog 44 #[.int .i64 2] w fun e w' => e = .returned (.string (ba [UInt8.ofNat 2])) ∧ Below w.heap.size w w' := fun w => oneByte_any 2 (by omega) w
  clear h hn
  generalize ba ([UInt8.ofNat 2] ++ enc (zig n)) = R at *
  generalize ba (enc (zig n)) = T at *
  generalize ba [UInt8.ofNat 2] = U at *
  go_enter Try.func19, Try.ntmps19
  go_upto_region 1 with fail
  go_cut [3, 4] (fun s3 s4 wx => ∃ b, s3 = .pointer (some ⟨b, 0, none⟩) ∧ s4 = .bool true ∧ AK (w.alloc (.cells #[.int .i64 2, .int .i64 n, .string s] 23)) wx b (.func (.func 61) #[] #[]) (.func (.func 62) #[] #[]) (.func (.func 63) #[] #[]))
  case first =>
    go_region_held3 (fun W => W.cell? ⟨w.heap.size, 0, none⟩ = some (.int .i64 2)) (first | go_keep | (rw [hc1 _ _ (by simp; omega)]; simp) | (rw [hc1 _ _ (by simp)]; simp)) ((go_at_call 37; refine (cK _).mono ?_; rintro e w1 ⟨b, rfl, hb1, hz1, hl1, hl2⟩; obtain ⟨hc1, hf1⟩ := bcell hb1))
    all_goals go_wp2_with fail
    all_goals go_meet
    all_goals first | exact ⟨_, rfl, rfl, ak_late hb1⟩ | exact ⟨_, rfl, rfl, ak_early (by simp) hb1⟩
  case rest =>
    obtain ⟨b, rfl, rfl, hak⟩ := hcut
    have k0 := hak.below.cell (p := ⟨w.heap.size, 0, none⟩) (by simp)
    have k1 := hak.below.cell (p := ⟨w.heap.size, 1, none⟩) (by simp)
    have k2 := hak.below.cell (p := ⟨w.heap.size, 2, none⟩) (by simp)
    simp at k0 k1 k2
    have q0 := hak.c0
    have q1 := hak.c1
    have hb0 := hak.below
    have hlt := hak.lt
    have hsz : w.heap.size < wc.heap.size := by have := hb0.size; simp at this; omega
    clear hak cK
    go_wp2_with fail
    refine (HF _).mono ?_
    rintro e w2 ⟨rfl, hb2⟩
    obtain ⟨hc2, _⟩ := bcell hb2
    have k0' := (hc2 _ 0 hsz).trans k0
    have k1' := (hc2 _ 1 hsz).trans k1
    have k2' := (hc2 _ 2 hsz).trans k2
    have q1' := (hc2 _ 1 hlt).trans q1
    have hsz2 : w.heap.size < w2.heap.size := by have := hb2.size; omega
    have hlt2 : b < w2.heap.size := by have := hb2.size; omega
    have h2 : Below w.heap.size w w2 := below3 (below_alloc1 w _) hb0 hb2
    clear hc2 k0 k1 k2 q0 q1 HF hlt hsz hb0 hb2
    go_wp2_with fail
    go_region_held3 (fun W => W.cell? ⟨w.heap.size, 0, none⟩ = some (.int .i64 2) ∧ W.cell? ⟨w.heap.size, 1, none⟩ = some (.int .i64 n) ∧ W.cell? ⟨w.heap.size, 2, none⟩ = some (.string s) ∧ W.cell? ⟨b, 1, none⟩ = some (.func (.func 62) #[] #[]))
      (first | exact ⟨(hB.cell (p := ⟨w.heap.size, 0, none⟩) hsz2).trans k0', (hB.cell (p := ⟨w.heap.size, 1, none⟩) hsz2).trans k1', (hB.cell (p := ⟨w.heap.size, 2, none⟩) hsz2).trans k2', (hB.cell (p := ⟨b, 1, none⟩) hlt2).trans q1'⟩ | go_keep)
      ((first | (go_at_call 44; refine (HO _).mono ?_; rintro e wO ⟨rfl, hbO⟩; first | have hB := drew_belowE hbO | have hB := below2 hB hbO) | (go_at_call 62; refine (HP _).mono ?_; rintro e wP ⟨rfl, hbP⟩; first | have hB := drew_belowE hbP | have hB := below2 hB hbP)))
    all_goals go_wp2_with fail
    all_goals go_ret
    all_goals exact ⟨rfl, below2 h2 hB⟩

set_option maxHeartbeats 1600000 in
set_option maxRecDepth 100000 in
theorem encode_yes3 (n : Int) (s : ByteArray) (w : World) (hs : s.size ≤ 1024) (h : (decide (n = 0) && decide (s.size ≤ 1024)) = true) :
    Calls Try.prog 19 #[.agg #[.int .i64 3, .int .i64 n, .string s]] w fun e w' => e = .returned (.string (ba ([UInt8.ofNat 3] ++ putT s.data.toList))) ∧ Below w.heap.size w w' := by
  have cK := fun w => kinds_S 3 w
  rw [show kindV 3 = .agg #[.func (.func 64) #[] #[], .func (.func 65) #[] #[], .func (.func 66) #[] #[]] from rfl, show (decide ((0 : Int) ≤ 3) && decide ((3 : Int) ≤ 3)) = true from rfl] at cK
  have HF := fun w => fitsText_any 3 n s w true h
  have HP := fun w => vputText_any 3 n s w (by omega)
  have hadd := fun W => run_add_ba [UInt8.ofNat 3] (putT s.data.toList) (by have := putT_le s; simp only [List.length_singleton]; omega) W
  have HO : ∀ w, Calls Try.prog 44 #[.int .i64 3] w fun e w' => e = .returned (.string (ba [UInt8.ofNat 3])) ∧ Below w.heap.size w w' := fun w => oneByte_any 3 (by omega) w
  clear h hs
  generalize ba ([UInt8.ofNat 3] ++ putT s.data.toList) = R at *
  generalize ba (putT s.data.toList) = T at *
  generalize ba [UInt8.ofNat 3] = U at *
  go_enter Try.func19, Try.ntmps19
  go_upto_region 1 with fail
  go_cut [3, 4] (fun s3 s4 wx => ∃ b, s3 = .pointer (some ⟨b, 0, none⟩) ∧ s4 = .bool true ∧ AK (w.alloc (.cells #[.int .i64 3, .int .i64 n, .string s] 23)) wx b (.func (.func 64) #[] #[]) (.func (.func 65) #[] #[]) (.func (.func 66) #[] #[]))
  case first =>
    go_region_held3 (fun W => W.cell? ⟨w.heap.size, 0, none⟩ = some (.int .i64 3)) (first | go_keep | (rw [hc1 _ _ (by simp; omega)]; simp) | (rw [hc1 _ _ (by simp)]; simp)) ((go_at_call 37; refine (cK _).mono ?_; rintro e w1 ⟨b, rfl, hb1, hz1, hl1, hl2⟩; obtain ⟨hc1, hf1⟩ := bcell hb1))
    all_goals go_wp2_with fail
    all_goals go_meet
    all_goals first | exact ⟨_, rfl, rfl, ak_late hb1⟩ | exact ⟨_, rfl, rfl, ak_early (by simp) hb1⟩
  case rest =>
    obtain ⟨b, rfl, rfl, hak⟩ := hcut
    have k0 := hak.below.cell (p := ⟨w.heap.size, 0, none⟩) (by simp)
    have k1 := hak.below.cell (p := ⟨w.heap.size, 1, none⟩) (by simp)
    have k2 := hak.below.cell (p := ⟨w.heap.size, 2, none⟩) (by simp)
    simp at k0 k1 k2
    have q0 := hak.c0
    have q1 := hak.c1
    have hb0 := hak.below
    have hlt := hak.lt
    have hsz : w.heap.size < wc.heap.size := by have := hb0.size; simp at this; omega
    clear hak cK
    go_wp2_with fail
    refine (HF _).mono ?_
    rintro e w2 ⟨rfl, hb2⟩
    obtain ⟨hc2, _⟩ := bcell hb2
    have k0' := (hc2 _ 0 hsz).trans k0
    have k1' := (hc2 _ 1 hsz).trans k1
    have k2' := (hc2 _ 2 hsz).trans k2
    have q1' := (hc2 _ 1 hlt).trans q1
    have hsz2 : w.heap.size < w2.heap.size := by have := hb2.size; omega
    have hlt2 : b < w2.heap.size := by have := hb2.size; omega
    have h2 : Below w.heap.size w w2 := below3 (below_alloc1 w _) hb0 hb2
    clear hc2 k0 k1 k2 q0 q1 HF hlt hsz hb0 hb2
    go_wp2_with fail
    go_region_held3 (fun W => W.cell? ⟨w.heap.size, 0, none⟩ = some (.int .i64 3) ∧ W.cell? ⟨w.heap.size, 1, none⟩ = some (.int .i64 n) ∧ W.cell? ⟨w.heap.size, 2, none⟩ = some (.string s) ∧ W.cell? ⟨b, 1, none⟩ = some (.func (.func 65) #[] #[]))
      (first | exact ⟨(hB.cell (p := ⟨w.heap.size, 0, none⟩) hsz2).trans k0', (hB.cell (p := ⟨w.heap.size, 1, none⟩) hsz2).trans k1', (hB.cell (p := ⟨w.heap.size, 2, none⟩) hsz2).trans k2', (hB.cell (p := ⟨b, 1, none⟩) hlt2).trans q1'⟩ | go_keep)
      ((first | (go_at_call 44; refine (HO _).mono ?_; rintro e wO ⟨rfl, hbO⟩; first | have hB := drew_belowE hbO | have hB := below2 hB hbO) | (go_at_call 65; refine (HP _).mono ?_; rintro e wP ⟨rfl, hbP⟩; first | have hB := drew_belowE hbP | have hB := below2 hB hbP)))
    all_goals go_wp2_with fail
    all_goals go_ret
    all_goals exact ⟨rfl, below2 h2 hB⟩

theorem encode_any (v : V) (w : World) (hn : -9223372036854775808 ≤ v.n ∧ v.n ≤ 9223372036854775807) : Calls Try.prog 19 #[v.val] w fun e w' => e = .returned (.string (ba (encV v))) ∧ Below w.heap.size w w' := by
  obtain ⟨c, n, s⟩ := v
  simp only [V.val, encV, goodB, blankB]
  by_cases h0 : c = 0
  · subst h0
    cases h : (decide (n = 0) && decide (s.size = 0)) with
    | true => exact encode_yes0 n s w h
    | false => exact encode_no0 n s w h
  by_cases h1 : c = 1
  · subst h1
    cases h : ((decide (n = 0) || decide (n = 1)) && decide (s.size = 0)) with
    | true =>
      have hm : n = 0 ∨ n = 1 := by
        simp only [Bool.and_eq_true, Bool.or_eq_true, decide_eq_true_eq] at h
        exact h.1
      have hq := encode_yes1 n.toNat (by omega) s w (by rw [show ((n.toNat : Nat) : Int) = n by omega]; exact h)
      rw [show ((n.toNat : Nat) : Int) = n by omega] at hq
      exact hq
    | false => exact encode_no1 n s w h
  by_cases h2 : c = 2
  · subst h2
    cases h : decide (s.size = 0) with
    | true => exact encode_yes2 n s w hn h
    | false => exact encode_no2 n s w h
  by_cases h3 : c = 3
  · subst h3
    cases h : (decide (n = 0) && decide (s.size ≤ 1024)) with
    | true => exact encode_yes3 n s w (by simp at h; exact h.2) h
    | false => exact encode_no3 n s w h
  simp only [h0, h1, h2, h3, decide_false, Bool.false_and, Bool.or_self, Bool.false_eq_true, if_false]
  exact encode_none c n s w (by omega)

end Go.Proofs.Ytndbhalkhejgjaa

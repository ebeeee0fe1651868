/- ValBack: a way. -/
import Derived.Test.YtndbhalkhejgjaaVOrder
import Derived.Test.YtndbhalkhejgjaaVKeep
import Derived.Test.YtndbhalkhejgjaaVRefSet
import Derived.Test.YtndbhalkhejgjaaVRef2
import Derived.Test.YtndbhalkhejgjaaVEncProps
import Derived.Test.YtndbhalkhejgjaaVDecProps2
import Derived.Test.YtndbhalkhejgjaaVBackMath2
import Derived.Test.YtndbhalkhejgjaaVTake
import Derived.Laws.Cover1
namespace Go.Proofs.Ytndbhalkhejgjaa
open Go.RowKit
attribute [local go_sem ↓] Go.wp_at_zero Go.wp_at_succ

set_option maxHeartbeats 4000000 in
set_option maxRecDepth 100000 in
theorem back_w12 (v : V) (L : List Pr) (a : Option Addr) (cap : Nat) (s : ByteArray) (w : World) (hsl : Sl w a L) (hcap : a = none → cap = 0) (hN : ∀ p ∈ L, -9223372036854775808 ≤ p.v.n ∧ p.v.n ≤ 9223372036854775807) (hn : -9223372036854775808 ≤ v.n ∧ v.n ≤ 9223372036854775807) (h0 : ¬ 5000 < v.s.size) (h1 : largeL L = false) (h2 : ¬ (100000 : Int) < (s.size : Int)) (hA : encV v ≠ []) (hB : propsB L = true) (hC : (decV s 0).2.2 = false) (hD : (decL s 0).2.2 = false) :
    Calls Try.prog 7 #[v.val, .slice a L.length cap, .string s] w fun e w' => e = .returned (.bool true) ∧ Below w.heap.size w w' := by
  have h60 := (largeL_no h1).1
  have lv := fun w => largeValue_any v w _ (decide_eq_false h0)
  have cL := fun w h => largeProps_any L a cap w h
  rw [h1] at cL
  have cV := fun w => encode_any v w hn
  have cF := fun w h => few_any L a cap w h hcap (by omega)
  have cE := fun a' c' w h => encProps_any L a' c' w h hN
  have cDs := fun w => decode_any s 0 w (by omega)
  have cLs := fun w => decodeProps_any s 0 w (by omega)
  have hE := decV_enc (ba (encV v ++ [120])) 0 v [120] (by rw [List.drop_zero, data_ba]) hA hn
  rw [show ((0 : Nat) : Int) = 0 from rfl] at hE
  have hle := encV_le v
  have cDv := fun w => decode_any (ba (encV v ++ [120])) 0 w (by rw [ba_len, List.length_append, List.length_singleton]; omega)
  rw [hE, ← ba_len (encV v)] at cDv
  simp only [gotW] at cDv
  have hadd : ∀ W, (Op.stringOp .add (ba (encV v)) ⟨#[120]⟩).run Try.prog W = .ok (.string (ba (encV v ++ [120]))) W := fun W => run_add_ba (encV v) [120] (by rw [List.length_singleton]; omega) W
  have hT := list_some (ba (encV v)) (by rw [ba_len]; exact fun h => hA (List.eq_nil_of_length_eq_zero h))
  have cKv := fun w => keepValue_any v v w
  rw [eqV_refl] at cKv
  clear hE hle hA
  generalize ba (encV v ++ [120]) = T1 at *
  generalize ba (encV v) = T at *
  have hE2 := decL_enc (ba ([120] ++ encL L)) 1 L [] (by rw [data_ba, List.append_nil]; rfl) hB hN
  rw [show ((1 : Nat) : Int) = 1 from rfl] at hE2
  have hle2 := encL_le hB
  have cDL := fun w => decodeProps_any (ba ([120] ++ encL L)) 1 w (by rw [ba_len, List.length_append, List.length_singleton]; omega)
  rw [hE2, ← ba_len (encL L)] at cDL
  have hadd2 : ∀ W, (Op.stringOp .add ⟨#[120]⟩ (ba (encL L))).run Try.prog W = .ok (.string (ba ([120] ++ encL L))) W := fun W => run_add_ba [120] (encL L) (by rw [List.length_singleton]; omega) W
  rw [show encR L = (ba (encL L), 0) by unfold encR; rw [if_pos hB]] at cE
  have cKL := fun aX cX w h h' => keepProps_any L aX a cX cap w h h' (by omega)
  clear hE2 hle2 hB
  generalize ba ([120] ++ encL L) = U1 at *
  generalize ba (encL L) = U at *
  simp only at cDL cE
  rw [decV_no s 0 hC] at cDs
  clear hC
  simp only [gotW, noV] at cDs
  rw [decL_no s 0 hD] at cLs
  clear hD
  clear hN hn h0 h1 hcap h60
  have hsl := hsl.kept (below_alloc1 w (.cells #[.int .i64 v.k, .int .i64 v.n, .string v.s] 23))
  obtain ⟨p0, p1, p2⟩ := B3.new w v 23 rfl
  have hR := below_alloc1 w (.cells #[.int .i64 v.k, .int .i64 v.n, .string v.s] 23)
  have y1 : w.heap.size < (w.alloc (.cells #[.int .i64 v.k, .int .i64 v.n, .string v.s] 23)).heap.size := by simp
  obtain ⟨ak, an, sa⟩ := v
  simp only [V.val] at *
  go_enter Try.func7, Try.ntmps7
  go_wp2_with fail
  refine (lv _).mono ?_
  rintro e w1 ⟨rfl, hb1⟩
  have p0 := (hb1.cell (p := ⟨w.heap.size, 0, none⟩) y1).trans p0
  have p1 := (hb1.cell (p := ⟨w.heap.size, 1, none⟩) y1).trans p1
  have p2 := (hb1.cell (p := ⟨w.heap.size, 2, none⟩) y1).trans p2
  have y1 : w.heap.size < w1.heap.size := by have := hb1.size; omega
  have hR := below2 hR hb1
  have hsl := hsl.kept hb1
  clear hb1
  go_wp2_with fail
  refine (cL _ hsl).mono ?_
  rintro e w2 ⟨rfl, hb2⟩
  have p0 := (hb2.cell (p := ⟨w.heap.size, 0, none⟩) y1).trans p0
  have p1 := (hb2.cell (p := ⟨w.heap.size, 1, none⟩) y1).trans p1
  have p2 := (hb2.cell (p := ⟨w.heap.size, 2, none⟩) y1).trans p2
  have y1 : w.heap.size < w2.heap.size := by have := hb2.size; omega
  have hR := below2 hR hb2
  have hsl := hsl.kept hb2
  clear hb2
  go_wp2_with fail
  refine (cV _).mono ?_
  rintro e w3 ⟨rfl, hb3⟩
  have p0 := (hb3.cell (p := ⟨w.heap.size, 0, none⟩) y1).trans p0
  have p1 := (hb3.cell (p := ⟨w.heap.size, 1, none⟩) y1).trans p1
  have p2 := (hb3.cell (p := ⟨w.heap.size, 2, none⟩) y1).trans p2
  have y1 : w.heap.size < w3.heap.size := by have := hb3.size; omega
  have hR := below2 hR hb3
  have hsl := hsl.kept hb3
  clear hb3
  go_wp2_with fail
  refine (cDv _).mono ?_
  rintro e w4 ⟨rfl, hb4⟩
  have p0 := (hb4.cell (p := ⟨w.heap.size, 0, none⟩) y1).trans p0
  have p1 := (hb4.cell (p := ⟨w.heap.size, 1, none⟩) y1).trans p1
  have p2 := (hb4.cell (p := ⟨w.heap.size, 2, none⟩) y1).trans p2
  have y1 : w.heap.size < w4.heap.size := by have := hb4.size; omega
  have hR := below2 hR hb4
  have hsl := hsl.kept hb4
  clear hb4
  go_wp2_with fail
  refine (cKv _).mono ?_
  rintro e w5 ⟨rfl, hb5⟩
  have hb5 := below2 (below_alloc1 w4 _) hb5
  have p0 := (hb5.cell (p := ⟨w.heap.size, 0, none⟩) y1).trans p0
  have p1 := (hb5.cell (p := ⟨w.heap.size, 1, none⟩) y1).trans p1
  have p2 := (hb5.cell (p := ⟨w.heap.size, 2, none⟩) y1).trans p2
  have y1 : w.heap.size < w5.heap.size := by have := hb5.size; omega
  have hR := below2 hR hb5
  have hsl := hsl.kept hb5
  clear hb5
  go_wp2_with fail
  refine (cF _ hsl).mono ?_
  rintro e w6 ⟨aF, cFc, rfl, slF, hb6⟩
  have p0 := (hb6.cell (p := ⟨w.heap.size, 0, none⟩) y1).trans p0
  have p1 := (hb6.cell (p := ⟨w.heap.size, 1, none⟩) y1).trans p1
  have p2 := (hb6.cell (p := ⟨w.heap.size, 2, none⟩) y1).trans p2
  have y1 : w.heap.size < w6.heap.size := by have := hb6.size; omega
  have hR := below2 hR hb6
  have hsl := hsl.kept hb6
  clear hb6
  go_wp2_with fail
  refine (cE aF cFc _ slF).mono ?_
  rintro e w7 ⟨rfl, hb7⟩
  have p0 := (hb7.cell (p := ⟨w.heap.size, 0, none⟩) y1).trans p0
  have p1 := (hb7.cell (p := ⟨w.heap.size, 1, none⟩) y1).trans p1
  have p2 := (hb7.cell (p := ⟨w.heap.size, 2, none⟩) y1).trans p2
  have y1 : w.heap.size < w7.heap.size := by have := hb7.size; omega
  have hR := below2 hR hb7
  have hsl := hsl.kept hb7
  clear hb7
  go_wp2_with fail
  refine (cDL _).mono ?_
  rintro e w8 ⟨aX, cX', rfl, slX, hb8⟩
  have p0 := (hb8.cell (p := ⟨w.heap.size, 0, none⟩) y1).trans p0
  have p1 := (hb8.cell (p := ⟨w.heap.size, 1, none⟩) y1).trans p1
  have p2 := (hb8.cell (p := ⟨w.heap.size, 2, none⟩) y1).trans p2
  have y1 : w.heap.size < w8.heap.size := by have := hb8.size; omega
  have hR := below2 hR hb8
  have hsl := hsl.kept hb8
  clear hb8
  go_wp2_with fail
  refine (cKL aX cX' _ slX hsl).mono ?_
  rintro e w9 ⟨rfl, hb9⟩
  have p0 := (hb9.cell (p := ⟨w.heap.size, 0, none⟩) y1).trans p0
  have p1 := (hb9.cell (p := ⟨w.heap.size, 1, none⟩) y1).trans p1
  have p2 := (hb9.cell (p := ⟨w.heap.size, 2, none⟩) y1).trans p2
  have y1 : w.heap.size < w9.heap.size := by have := hb9.size; omega
  have hR := below2 hR hb9
  have hsl := hsl.kept hb9
  clear hb9
  go_wp2_with fail
  refine (cDs _).mono ?_
  rintro e w10 ⟨rfl, hb10⟩
  have p0 := (hb10.cell (p := ⟨w.heap.size, 0, none⟩) y1).trans p0
  have p1 := (hb10.cell (p := ⟨w.heap.size, 1, none⟩) y1).trans p1
  have p2 := (hb10.cell (p := ⟨w.heap.size, 2, none⟩) y1).trans p2
  have y1 : w.heap.size < w10.heap.size := by have := hb10.size; omega
  have hR := below2 hR hb10
  have hsl := hsl.kept hb10
  clear hb10
  obtain ⟨W, hW⟩ : ∃ W, W = w10.alloc (.cells #[.int .i64 0, .int .i64 0, .string ⟨#[]⟩] 23) := ⟨_, rfl⟩
  have hR : Below w.heap.size w W := by rw [hW]; exact below2 hR (below_alloc1 w10 _)
  clear p0 p1 p2 y1 hsl
  go_wp2_with fail
  rw [← hW]
  clear hW
  have hR : Below w.heap.size w W.drew := hR.drew
  refine wp_region_held (S := fun _ => True) (by kernel_rfl) ?_
  change wpAnyH _ _ _ _ _ _ _ _ (World.drew _)
  refine takeD 0 98 (v := .bool false) rfl rfl (by kernel_rfl) (by kernel_rfl) (by kernel_rfl) (fun _ _ _ h => h) (Or.inl ⟨by kernel_rfl, fun _ _ => by kernel_rfl⟩) trivial ?_
  simp only [List.setIfInBounds_toArray, List.set_cons_zero, List.set_cons_succ]
  refine takeD 1 99 (v := .bool false) rfl rfl (by kernel_rfl) (by kernel_rfl) (by kernel_rfl) (fun _ _ _ h => h) (Or.inl ⟨by kernel_rfl, fun _ _ => by kernel_rfl⟩) trivial ?_
  simp only [List.setIfInBounds_toArray, List.set_cons_zero, List.set_cons_succ]
  refine takeD 2 100 (v := undef) rfl rfl (by kernel_rfl) (by kernel_rfl) (by kernel_rfl) (fun _ _ _ h => h) (Or.inr ⟨by kernel_rfl, rfl⟩) trivial ?_
  simp only [List.setIfInBounds_toArray, List.set_cons_zero, List.set_cons_succ]
  refine takeD 3 101 (v := undef) rfl rfl (by kernel_rfl) (by kernel_rfl) (by kernel_rfl) (fun _ _ _ h => h) (Or.inr ⟨by kernel_rfl, rfl⟩) trivial ?_
  simp only [List.setIfInBounds_toArray, List.set_cons_zero, List.set_cons_succ]
  refine takeD 4 102 (v := undef) rfl rfl (by kernel_rfl) (by kernel_rfl) (by kernel_rfl) (fun _ _ _ h => h) (Or.inr ⟨by kernel_rfl, rfl⟩) trivial ?_
  simp only [List.setIfInBounds_toArray, List.set_cons_zero, List.set_cons_succ]
  refine takeD 5 103 (v := undef) rfl rfl (by kernel_rfl) (by kernel_rfl) (by kernel_rfl) (fun _ _ _ h => h) (Or.inr ⟨by kernel_rfl, rfl⟩) trivial ?_
  simp only [List.setIfInBounds_toArray, List.set_cons_zero, List.set_cons_succ]
  refine takeD 6 104 (v := undef) rfl rfl (by kernel_rfl) (by kernel_rfl) (by kernel_rfl) (fun _ _ _ h => h) (Or.inr ⟨by kernel_rfl, rfl⟩) trivial ?_
  simp only [List.setIfInBounds_toArray, List.set_cons_zero, List.set_cons_succ]
  refine takeD 7 105 (v := undef) rfl rfl (by kernel_rfl) (by kernel_rfl) (by kernel_rfl) (fun _ _ _ h => h) (Or.inr ⟨by kernel_rfl, rfl⟩) trivial ?_
  simp only [List.setIfInBounds_toArray, List.set_cons_zero, List.set_cons_succ]
  refine takeD 8 106 (v := .bool false) rfl rfl (by kernel_rfl) (by kernel_rfl) (by kernel_rfl) (fun _ _ _ h => h) (Or.inl ⟨by kernel_rfl, fun _ _ => by kernel_rfl⟩) trivial ?_
  simp only [List.setIfInBounds_toArray, List.set_cons_zero, List.set_cons_succ]
  refine wpAnyH_done (by kernel_rfl) ?_ _
  go_wp2_with fail
  refine (cLs _).mono ?_
  rintro e w50 ⟨aK, cK, rfl, slK, hb50⟩
  have hR := below2 hR hb50
  clear hb50
  go_wp2_with fail
  refine (vwakes_any _).mono ?_
  rintro e w99 ⟨rfl, hb99⟩
  go_wp2_with fail
  go_ret
  exact ⟨rfl, below2 hR hb99⟩

set_option maxHeartbeats 4000000 in
set_option maxRecDepth 100000 in
theorem back_w13 (v : V) (L : List Pr) (a : Option Addr) (cap : Nat) (s : ByteArray) (w : World) (hsl : Sl w a L) (hcap : a = none → cap = 0) (hN : ∀ p ∈ L, -9223372036854775808 ≤ p.v.n ∧ p.v.n ≤ 9223372036854775807) (hn : -9223372036854775808 ≤ v.n ∧ v.n ≤ 9223372036854775807) (h0 : ¬ 5000 < v.s.size) (h1 : largeL L = false) (h2 : ¬ (100000 : Int) < (s.size : Int)) (hA : encV v ≠ []) (hB : propsB L = true) (hC : (decV s 0).2.2 = false) (hD : (decL s 0).2.2 = true) :
    Calls Try.prog 7 #[v.val, .slice a L.length cap, .string s] w fun e w' => e = .returned (.bool true) ∧ Below w.heap.size w w' := by
  have h60 := (largeL_no h1).1
  have lv := fun w => largeValue_any v w _ (decide_eq_false h0)
  have cL := fun w h => largeProps_any L a cap w h
  rw [h1] at cL
  have cV := fun w => encode_any v w hn
  have cF := fun w h => few_any L a cap w h hcap (by omega)
  have cE := fun a' c' w h => encProps_any L a' c' w h hN
  have cDs := fun w => decode_any s 0 w (by omega)
  have cLs := fun w => decodeProps_any s 0 w (by omega)
  have hE := decV_enc (ba (encV v ++ [120])) 0 v [120] (by rw [List.drop_zero, data_ba]) hA hn
  rw [show ((0 : Nat) : Int) = 0 from rfl] at hE
  have hle := encV_le v
  have cDv := fun w => decode_any (ba (encV v ++ [120])) 0 w (by rw [ba_len, List.length_append, List.length_singleton]; omega)
  rw [hE, ← ba_len (encV v)] at cDv
  simp only [gotW] at cDv
  have hadd : ∀ W, (Op.stringOp .add (ba (encV v)) ⟨#[120]⟩).run Try.prog W = .ok (.string (ba (encV v ++ [120]))) W := fun W => run_add_ba (encV v) [120] (by rw [List.length_singleton]; omega) W
  have hT := list_some (ba (encV v)) (by rw [ba_len]; exact fun h => hA (List.eq_nil_of_length_eq_zero h))
  have cKv := fun w => keepValue_any v v w
  rw [eqV_refl] at cKv
  clear hE hle hA
  generalize ba (encV v ++ [120]) = T1 at *
  generalize ba (encV v) = T at *
  have hE2 := decL_enc (ba ([120] ++ encL L)) 1 L [] (by rw [data_ba, List.append_nil]; rfl) hB hN
  rw [show ((1 : Nat) : Int) = 1 from rfl] at hE2
  have hle2 := encL_le hB
  have cDL := fun w => decodeProps_any (ba ([120] ++ encL L)) 1 w (by rw [ba_len, List.length_append, List.length_singleton]; omega)
  rw [hE2, ← ba_len (encL L)] at cDL
  have hadd2 : ∀ W, (Op.stringOp .add ⟨#[120]⟩ (ba (encL L))).run Try.prog W = .ok (.string (ba ([120] ++ encL L))) W := fun W => run_add_ba [120] (encL L) (by rw [List.length_singleton]; omega) W
  rw [show encR L = (ba (encL L), 0) by unfold encR; rw [if_pos hB]] at cE
  have cKL := fun aX cX w h h' => keepProps_any L aX a cX cap w h h' (by omega)
  clear hE2 hle2 hB
  generalize ba ([120] ++ encL L) = U1 at *
  generalize ba (encL L) = U at *
  simp only at cDL cE
  rw [decV_no s 0 hC] at cDs
  clear hC
  simp only [gotW, noV] at cDs
  obtain ⟨hd1, hd2, hd3, hd4⟩ := decL_took s 0 (by exact hD)
  rw [show ((0 : Nat) : Int) = 0 from rfl] at hd1 hd2 hd3 hd4
  rw [List.drop_zero] at hd2
  have cEK := fun a' c' w h => encProps_any (decL s 0).1 a' c' w h (fun p hp => ⟨(hd4 p hp).c, (hd4 p hp).d⟩)
  rw [show encR (decL s 0).1 = (ba (encL (decL s 0).1), 0) by unfold encR; rw [if_pos hd1]] at cEK
  have hcut2 : ∀ W : World, (Instr.slice 9 (.string s) none (some (.int .i64 ((decL s 0).2.1 : Int))) none).run Try.prog W = .ok (.string (ba (encL (decL s 0).1))) W := by
    intro W
    rw [hd2, ← cut_first]
    have := run_slice_string_h (P := Try.prog) (w := W) (t := 9) (s := s) Try.underlying9 .i64 ((decL s 0).2.1 : Int) (by omega) (by omega)
    simpa using this
  clear hd1 hd2 hd3 hd4
  generalize decL s 0 = k at *
  obtain ⟨Kl, kz, kok⟩ := k
  simp only at hD
  subst hD
  simp only at *
  generalize ba (encL Kl) = Y at *
  clear hN hn h0 h1 hcap h60
  have hsl := hsl.kept (below_alloc1 w (.cells #[.int .i64 v.k, .int .i64 v.n, .string v.s] 23))
  obtain ⟨p0, p1, p2⟩ := B3.new w v 23 rfl
  have hR := below_alloc1 w (.cells #[.int .i64 v.k, .int .i64 v.n, .string v.s] 23)
  have y1 : w.heap.size < (w.alloc (.cells #[.int .i64 v.k, .int .i64 v.n, .string v.s] 23)).heap.size := by simp
  obtain ⟨ak, an, sa⟩ := v
  simp only [V.val] at *
  go_enter Try.func7, Try.ntmps7
  go_wp2_with fail
  refine (lv _).mono ?_
  rintro e w1 ⟨rfl, hb1⟩
  have p0 := (hb1.cell (p := ⟨w.heap.size, 0, none⟩) y1).trans p0
  have p1 := (hb1.cell (p := ⟨w.heap.size, 1, none⟩) y1).trans p1
  have p2 := (hb1.cell (p := ⟨w.heap.size, 2, none⟩) y1).trans p2
  have y1 : w.heap.size < w1.heap.size := by have := hb1.size; omega
  have hR := below2 hR hb1
  have hsl := hsl.kept hb1
  clear hb1
  go_wp2_with fail
  refine (cL _ hsl).mono ?_
  rintro e w2 ⟨rfl, hb2⟩
  have p0 := (hb2.cell (p := ⟨w.heap.size, 0, none⟩) y1).trans p0
  have p1 := (hb2.cell (p := ⟨w.heap.size, 1, none⟩) y1).trans p1
  have p2 := (hb2.cell (p := ⟨w.heap.size, 2, none⟩) y1).trans p2
  have y1 : w.heap.size < w2.heap.size := by have := hb2.size; omega
  have hR := below2 hR hb2
  have hsl := hsl.kept hb2
  clear hb2
  go_wp2_with fail
  refine (cV _).mono ?_
  rintro e w3 ⟨rfl, hb3⟩
  have p0 := (hb3.cell (p := ⟨w.heap.size, 0, none⟩) y1).trans p0
  have p1 := (hb3.cell (p := ⟨w.heap.size, 1, none⟩) y1).trans p1
  have p2 := (hb3.cell (p := ⟨w.heap.size, 2, none⟩) y1).trans p2
  have y1 : w.heap.size < w3.heap.size := by have := hb3.size; omega
  have hR := below2 hR hb3
  have hsl := hsl.kept hb3
  clear hb3
  go_wp2_with fail
  refine (cDv _).mono ?_
  rintro e w4 ⟨rfl, hb4⟩
  have p0 := (hb4.cell (p := ⟨w.heap.size, 0, none⟩) y1).trans p0
  have p1 := (hb4.cell (p := ⟨w.heap.size, 1, none⟩) y1).trans p1
  have p2 := (hb4.cell (p := ⟨w.heap.size, 2, none⟩) y1).trans p2
  have y1 : w.heap.size < w4.heap.size := by have := hb4.size; omega
  have hR := below2 hR hb4
  have hsl := hsl.kept hb4
  clear hb4
  go_wp2_with fail
  refine (cKv _).mono ?_
  rintro e w5 ⟨rfl, hb5⟩
  have hb5 := below2 (below_alloc1 w4 _) hb5
  have p0 := (hb5.cell (p := ⟨w.heap.size, 0, none⟩) y1).trans p0
  have p1 := (hb5.cell (p := ⟨w.heap.size, 1, none⟩) y1).trans p1
  have p2 := (hb5.cell (p := ⟨w.heap.size, 2, none⟩) y1).trans p2
  have y1 : w.heap.size < w5.heap.size := by have := hb5.size; omega
  have hR := below2 hR hb5
  have hsl := hsl.kept hb5
  clear hb5
  go_wp2_with fail
  refine (cF _ hsl).mono ?_
  rintro e w6 ⟨aF, cFc, rfl, slF, hb6⟩
  have p0 := (hb6.cell (p := ⟨w.heap.size, 0, none⟩) y1).trans p0
  have p1 := (hb6.cell (p := ⟨w.heap.size, 1, none⟩) y1).trans p1
  have p2 := (hb6.cell (p := ⟨w.heap.size, 2, none⟩) y1).trans p2
  have y1 : w.heap.size < w6.heap.size := by have := hb6.size; omega
  have hR := below2 hR hb6
  have hsl := hsl.kept hb6
  clear hb6
  go_wp2_with fail
  refine (cE aF cFc _ slF).mono ?_
  rintro e w7 ⟨rfl, hb7⟩
  have p0 := (hb7.cell (p := ⟨w.heap.size, 0, none⟩) y1).trans p0
  have p1 := (hb7.cell (p := ⟨w.heap.size, 1, none⟩) y1).trans p1
  have p2 := (hb7.cell (p := ⟨w.heap.size, 2, none⟩) y1).trans p2
  have y1 : w.heap.size < w7.heap.size := by have := hb7.size; omega
  have hR := below2 hR hb7
  have hsl := hsl.kept hb7
  clear hb7
  go_wp2_with fail
  refine (cDL _).mono ?_
  rintro e w8 ⟨aX, cX', rfl, slX, hb8⟩
  have p0 := (hb8.cell (p := ⟨w.heap.size, 0, none⟩) y1).trans p0
  have p1 := (hb8.cell (p := ⟨w.heap.size, 1, none⟩) y1).trans p1
  have p2 := (hb8.cell (p := ⟨w.heap.size, 2, none⟩) y1).trans p2
  have y1 : w.heap.size < w8.heap.size := by have := hb8.size; omega
  have hR := below2 hR hb8
  have hsl := hsl.kept hb8
  clear hb8
  go_wp2_with fail
  refine (cKL aX cX' _ slX hsl).mono ?_
  rintro e w9 ⟨rfl, hb9⟩
  have p0 := (hb9.cell (p := ⟨w.heap.size, 0, none⟩) y1).trans p0
  have p1 := (hb9.cell (p := ⟨w.heap.size, 1, none⟩) y1).trans p1
  have p2 := (hb9.cell (p := ⟨w.heap.size, 2, none⟩) y1).trans p2
  have y1 : w.heap.size < w9.heap.size := by have := hb9.size; omega
  have hR := below2 hR hb9
  have hsl := hsl.kept hb9
  clear hb9
  go_wp2_with fail
  refine (cDs _).mono ?_
  rintro e w10 ⟨rfl, hb10⟩
  have p0 := (hb10.cell (p := ⟨w.heap.size, 0, none⟩) y1).trans p0
  have p1 := (hb10.cell (p := ⟨w.heap.size, 1, none⟩) y1).trans p1
  have p2 := (hb10.cell (p := ⟨w.heap.size, 2, none⟩) y1).trans p2
  have y1 : w.heap.size < w10.heap.size := by have := hb10.size; omega
  have hR := below2 hR hb10
  have hsl := hsl.kept hb10
  clear hb10
  obtain ⟨W, hW⟩ : ∃ W, W = w10.alloc (.cells #[.int .i64 0, .int .i64 0, .string ⟨#[]⟩] 23) := ⟨_, rfl⟩
  have hR : Below w.heap.size w W := by rw [hW]; exact below2 hR (below_alloc1 w10 _)
  clear p0 p1 p2 y1 hsl
  go_wp2_with fail
  rw [← hW]
  clear hW
  have hR : Below w.heap.size w W.drew := hR.drew
  refine wp_region_held (S := fun _ => True) (by kernel_rfl) ?_
  change wpAnyH _ _ _ _ _ _ _ _ (World.drew _)
  refine takeD 0 98 (v := .bool false) rfl rfl (by kernel_rfl) (by kernel_rfl) (by kernel_rfl) (fun _ _ _ h => h) (Or.inl ⟨by kernel_rfl, fun _ _ => by kernel_rfl⟩) trivial ?_
  simp only [List.setIfInBounds_toArray, List.set_cons_zero, List.set_cons_succ]
  refine takeD 1 99 (v := .bool false) rfl rfl (by kernel_rfl) (by kernel_rfl) (by kernel_rfl) (fun _ _ _ h => h) (Or.inl ⟨by kernel_rfl, fun _ _ => by kernel_rfl⟩) trivial ?_
  simp only [List.setIfInBounds_toArray, List.set_cons_zero, List.set_cons_succ]
  refine takeD 2 100 (v := undef) rfl rfl (by kernel_rfl) (by kernel_rfl) (by kernel_rfl) (fun _ _ _ h => h) (Or.inr ⟨by kernel_rfl, rfl⟩) trivial ?_
  simp only [List.setIfInBounds_toArray, List.set_cons_zero, List.set_cons_succ]
  refine takeD 3 101 (v := undef) rfl rfl (by kernel_rfl) (by kernel_rfl) (by kernel_rfl) (fun _ _ _ h => h) (Or.inr ⟨by kernel_rfl, rfl⟩) trivial ?_
  simp only [List.setIfInBounds_toArray, List.set_cons_zero, List.set_cons_succ]
  refine takeD 4 102 (v := undef) rfl rfl (by kernel_rfl) (by kernel_rfl) (by kernel_rfl) (fun _ _ _ h => h) (Or.inr ⟨by kernel_rfl, rfl⟩) trivial ?_
  simp only [List.setIfInBounds_toArray, List.set_cons_zero, List.set_cons_succ]
  refine takeD 5 103 (v := undef) rfl rfl (by kernel_rfl) (by kernel_rfl) (by kernel_rfl) (fun _ _ _ h => h) (Or.inr ⟨by kernel_rfl, rfl⟩) trivial ?_
  simp only [List.setIfInBounds_toArray, List.set_cons_zero, List.set_cons_succ]
  refine takeD 6 104 (v := undef) rfl rfl (by kernel_rfl) (by kernel_rfl) (by kernel_rfl) (fun _ _ _ h => h) (Or.inr ⟨by kernel_rfl, rfl⟩) trivial ?_
  simp only [List.setIfInBounds_toArray, List.set_cons_zero, List.set_cons_succ]
  refine takeD 7 105 (v := undef) rfl rfl (by kernel_rfl) (by kernel_rfl) (by kernel_rfl) (fun _ _ _ h => h) (Or.inr ⟨by kernel_rfl, rfl⟩) trivial ?_
  simp only [List.setIfInBounds_toArray, List.set_cons_zero, List.set_cons_succ]
  refine takeD 8 106 (v := .bool false) rfl rfl (by kernel_rfl) (by kernel_rfl) (by kernel_rfl) (fun _ _ _ h => h) (Or.inl ⟨by kernel_rfl, fun _ _ => by kernel_rfl⟩) trivial ?_
  simp only [List.setIfInBounds_toArray, List.set_cons_zero, List.set_cons_succ]
  refine wpAnyH_done (by kernel_rfl) ?_ _
  go_wp2_with fail
  refine (cLs _).mono ?_
  rintro e w50 ⟨aK, cK, rfl, slK, hb50⟩
  have hR := below2 hR hb50
  clear hb50
  go_wp2_with fail
  refine (cEK aK cK _ slK).mono ?_
  rintro e w51 ⟨rfl, hb51⟩
  have hR := below2 hR hb51
  clear hb51
  go_wp2_with fail
  refine (vwakes_any _).mono ?_
  rintro e w99 ⟨rfl, hb99⟩
  go_wp2_with fail
  go_ret
  exact ⟨rfl, below2 hR hb99⟩

end Go.Proofs.Ytndbhalkhejgjaa

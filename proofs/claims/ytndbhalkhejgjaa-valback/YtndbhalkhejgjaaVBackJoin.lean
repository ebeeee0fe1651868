/- ValBack: for every input the call returns true, and each argument reads afterwards as it did; no condition. -/
import Derived.Test.YtndbhalkhejgjaaVOrder
import Derived.Test.YtndbhalkhejgjaaVKeep
import Derived.Test.YtndbhalkhejgjaaVRefSet
import Derived.Test.YtndbhalkhejgjaaVRef2
import Derived.Test.YtndbhalkhejgjaaVEncProps
import Derived.Test.YtndbhalkhejgjaaVDecProps2
import Derived.Test.YtndbhalkhejgjaaVBackMath2
import Derived.Test.YtndbhalkhejgjaaVTake
import Derived.Laws.Cover1
import Derived.ProofKit
import Derived.OpenShut
import Derived.ShutString
import Derived.ChangeOld
import Derived.Below

section
namespace Go.Proofs.Ytndbhalkhejgjaa
open Go.RowKit
attribute [local go_sem ↓] Go.wp_at_zero Go.wp_at_succ

set_option maxHeartbeats 800000 in
set_option maxRecDepth 100000 in
theorem back_1 (v : V) (L : List Pr) (a : Option Addr) (cap : Nat) (s : ByteArray) (w : World) (hsl : Sl w a L) (h0 : 5000 < v.s.size) :
    Calls Try.prog 7 #[v.val, .slice a L.length cap, .string s] w fun e w' => e = .returned (.bool true) ∧ Below w.heap.size w w' := by
  have lv := fun w => largeValue_any v w _ (decide_eq_true h0)
  clear h0
  have hsl := hsl.kept (below_alloc1 w (.cells #[.int .i64 v.k, .int .i64 v.n, .string v.s] 23))
  obtain ⟨p0, p1, p2⟩ := B3.new w v 23 rfl
  have hR := below_alloc1 w (.cells #[.int .i64 v.k, .int .i64 v.n, .string v.s] 23)
  have y1 : w.heap.size < (w.alloc (.cells #[.int .i64 v.k, .int .i64 v.n, .string v.s] 23)).heap.size := by simp
  obtain ⟨ak, an, sa⟩ := v
  simp only [V.val] at *
  go_enter Try.func7, Try.ntmps7
  go_wp2_with fail
  refine (lv _).mono ?_
  rintro e w1 ⟨rfl, hb1⟩
  have p0 := (hb1.cell (p := ⟨w.heap.size, 0, none⟩) y1).trans p0
  have p1 := (hb1.cell (p := ⟨w.heap.size, 1, none⟩) y1).trans p1
  have p2 := (hb1.cell (p := ⟨w.heap.size, 2, none⟩) y1).trans p2
  have y1 : w.heap.size < w1.heap.size := by have := hb1.size; omega
  have hR := below2 hR hb1
  have hsl := hsl.kept hb1
  clear hb1
  go_wp2_with fail
  refine (vwakes_any _).mono ?_
  rintro e w99 ⟨rfl, hb99⟩
  go_wp2_with fail
  go_ret
  exact ⟨rfl, below2 hR hb99⟩

set_option maxHeartbeats 800000 in
set_option maxRecDepth 100000 in
theorem back_2 (v : V) (L : List Pr) (a : Option Addr) (cap : Nat) (s : ByteArray) (w : World) (hsl : Sl w a L) (h0 : ¬ 5000 < v.s.size) (h1 : largeL L = true) :
    Calls Try.prog 7 #[v.val, .slice a L.length cap, .string s] w fun e w' => e = .returned (.bool true) ∧ Below w.heap.size w w' := by
  have lv := fun w => largeValue_any v w _ (decide_eq_false h0)
  have cL := fun w h => largeProps_any L a cap w h
  rw [h1] at cL
  clear h0 h1
  have hsl := hsl.kept (below_alloc1 w (.cells #[.int .i64 v.k, .int .i64 v.n, .string v.s] 23))
  obtain ⟨p0, p1, p2⟩ := B3.new w v 23 rfl
  have hR := below_alloc1 w (.cells #[.int .i64 v.k, .int .i64 v.n, .string v.s] 23)
  have y1 : w.heap.size < (w.alloc (.cells #[.int .i64 v.k, .int .i64 v.n, .string v.s] 23)).heap.size := by simp
  obtain ⟨ak, an, sa⟩ := v
  simp only [V.val] at *
  go_enter Try.func7, Try.ntmps7
  go_wp2_with fail
  refine (lv _).mono ?_
  rintro e w1 ⟨rfl, hb1⟩
  have p0 := (hb1.cell (p := ⟨w.heap.size, 0, none⟩) y1).trans p0
  have p1 := (hb1.cell (p := ⟨w.heap.size, 1, none⟩) y1).trans p1
  have p2 := (hb1.cell (p := ⟨w.heap.size, 2, none⟩) y1).trans p2
  have y1 : w.heap.size < w1.heap.size := by have := hb1.size; omega
  have hR := below2 hR hb1
  have hsl := hsl.kept hb1
  clear hb1
  go_wp2_with fail
  refine (cL _ hsl).mono ?_
  rintro e w2 ⟨rfl, hb2⟩
  have p0 := (hb2.cell (p := ⟨w.heap.size, 0, none⟩) y1).trans p0
  have p1 := (hb2.cell (p := ⟨w.heap.size, 1, none⟩) y1).trans p1
  have p2 := (hb2.cell (p := ⟨w.heap.size, 2, none⟩) y1).trans p2
  have y1 : w.heap.size < w2.heap.size := by have := hb2.size; omega
  have hR := below2 hR hb2
  have hsl := hsl.kept hb2
  clear hb2
  go_wp2_with fail
  refine (vwakes_any _).mono ?_
  rintro e w99 ⟨rfl, hb99⟩
  go_wp2_with fail
  go_ret
  exact ⟨rfl, below2 hR hb99⟩

set_option maxHeartbeats 800000 in
set_option maxRecDepth 100000 in
theorem back_3 (v : V) (L : List Pr) (a : Option Addr) (cap : Nat) (s : ByteArray) (w : World) (hsl : Sl w a L) (h0 : ¬ 5000 < v.s.size) (h1 : largeL L = false) (h2 : (100000 : Int) < (s.size : Int)) :
    Calls Try.prog 7 #[v.val, .slice a L.length cap, .string s] w fun e w' => e = .returned (.bool true) ∧ Below w.heap.size w w' := by
  have lv := fun w => largeValue_any v w _ (decide_eq_false h0)
  have cL := fun w h => largeProps_any L a cap w h
  rw [h1] at cL
  clear h0 h1
  have hsl := hsl.kept (below_alloc1 w (.cells #[.int .i64 v.k, .int .i64 v.n, .string v.s] 23))
  obtain ⟨p0, p1, p2⟩ := B3.new w v 23 rfl
  have hR := below_alloc1 w (.cells #[.int .i64 v.k, .int .i64 v.n, .string v.s] 23)
  have y1 : w.heap.size < (w.alloc (.cells #[.int .i64 v.k, .int .i64 v.n, .string v.s] 23)).heap.size := by simp
  obtain ⟨ak, an, sa⟩ := v
  simp only [V.val] at *
  go_enter Try.func7, Try.ntmps7
  go_wp2_with fail
  refine (lv _).mono ?_
  rintro e w1 ⟨rfl, hb1⟩
  have p0 := (hb1.cell (p := ⟨w.heap.size, 0, none⟩) y1).trans p0
  have p1 := (hb1.cell (p := ⟨w.heap.size, 1, none⟩) y1).trans p1
  have p2 := (hb1.cell (p := ⟨w.heap.size, 2, none⟩) y1).trans p2
  have y1 : w.heap.size < w1.heap.size := by have := hb1.size; omega
  have hR := below2 hR hb1
  have hsl := hsl.kept hb1
  clear hb1
  go_wp2_with fail
  refine (cL _ hsl).mono ?_
  rintro e w2 ⟨rfl, hb2⟩
  have p0 := (hb2.cell (p := ⟨w.heap.size, 0, none⟩) y1).trans p0
  have p1 := (hb2.cell (p := ⟨w.heap.size, 1, none⟩) y1).trans p1
  have p2 := (hb2.cell (p := ⟨w.heap.size, 2, none⟩) y1).trans p2
  have y1 : w.heap.size < w2.heap.size := by have := hb2.size; omega
  have hR := below2 hR hb2
  have hsl := hsl.kept hb2
  clear hb2
  go_wp2_with fail
  refine (vwakes_any _).mono ?_
  rintro e w99 ⟨rfl, hb99⟩
  go_wp2_with fail
  go_ret
  exact ⟨rfl, below2 hR hb99⟩

end Go.Proofs.Ytndbhalkhejgjaa
end

section
namespace Go.Proofs.Ytndbhalkhejgjaa
open Go.RowKit
attribute [local go_sem ↓] Go.wp_at_zero Go.wp_at_succ

set_option maxHeartbeats 4000000 in
set_option maxRecDepth 100000 in
theorem back_w0 (v : V) (L : List Pr) (a : Option Addr) (cap : Nat) (s : ByteArray) (w : World) (hsl : Sl w a L) (hcap : a = none → cap = 0) (hN : ∀ p ∈ L, -9223372036854775808 ≤ p.v.n ∧ p.v.n ≤ 9223372036854775807) (hn : -9223372036854775808 ≤ v.n ∧ v.n ≤ 9223372036854775807) (h0 : ¬ 5000 < v.s.size) (h1 : largeL L = false) (h2 : ¬ (100000 : Int) < (s.size : Int)) (hA : encV v = []) (hB : propsB L = false) (hC : (decV s 0).2.2 = false) (hD : (decL s 0).2.2 = false) :
    Calls Try.prog 7 #[v.val, .slice a L.length cap, .string s] w fun e w' => e = .returned (.bool true) ∧ Below w.heap.size w w' := by
  have h60 := (largeL_no h1).1
  have lv := fun w => largeValue_any v w _ (decide_eq_false h0)
  have cL := fun w h => largeProps_any L a cap w h
  rw [h1] at cL
  have cV := fun w => encode_any v w hn
  have cF := fun w h => few_any L a cap w h hcap (by omega)
  have cE := fun a' c' w h => encProps_any L a' c' w h hN
  have cDs := fun w => decode_any s 0 w (by omega)
  have cLs := fun w => decodeProps_any s 0 w (by omega)
  rw [hA] at cV
  have gv := fun w => refGood_any v w
  rw [show goodB v = false by cases hg : goodB v with | false => rfl | true => exact absurd hA (encV_some hg)] at gv
  clear hA
  have cV : ∀ w, Calls Try.prog 19 #[v.val] w fun e w' => e = .returned (.string ⟨#[]⟩) ∧ Below w.heap.size w w' := cV
  rw [show encR L = (⟨#[]⟩, 142) by unfold encR; rw [hB]; rfl] at cE
  clear hB
  simp only at cE
  rw [decV_no s 0 hC] at cDs
  clear hC
  simp only [gotW, noV] at cDs
  rw [decL_no s 0 hD] at cLs
  clear hD
  clear hN hn h0 h1 hcap h60
  have hsl := hsl.kept (below_alloc1 w (.cells #[.int .i64 v.k, .int .i64 v.n, .string v.s] 23))
  obtain ⟨p0, p1, p2⟩ := B3.new w v 23 rfl
  have hR := below_alloc1 w (.cells #[.int .i64 v.k, .int .i64 v.n, .string v.s] 23)
  have y1 : w.heap.size < (w.alloc (.cells #[.int .i64 v.k, .int .i64 v.n, .string v.s] 23)).heap.size := by simp
  obtain ⟨ak, an, sa⟩ := v
  simp only [V.val] at *
  go_enter Try.func7, Try.ntmps7
  go_wp2_with fail
  refine (lv _).mono ?_
  rintro e w1 ⟨rfl, hb1⟩
  have p0 := (hb1.cell (p := ⟨w.heap.size, 0, none⟩) y1).trans p0
  have p1 := (hb1.cell (p := ⟨w.heap.size, 1, none⟩) y1).trans p1
  have p2 := (hb1.cell (p := ⟨w.heap.size, 2, none⟩) y1).trans p2
  have y1 : w.heap.size < w1.heap.size := by have := hb1.size; omega
  have hR := below2 hR hb1
  have hsl := hsl.kept hb1
  clear hb1
  go_wp2_with fail
  refine (cL _ hsl).mono ?_
  rintro e w2 ⟨rfl, hb2⟩
  have p0 := (hb2.cell (p := ⟨w.heap.size, 0, none⟩) y1).trans p0
  have p1 := (hb2.cell (p := ⟨w.heap.size, 1, none⟩) y1).trans p1
  have p2 := (hb2.cell (p := ⟨w.heap.size, 2, none⟩) y1).trans p2
  have y1 : w.heap.size < w2.heap.size := by have := hb2.size; omega
  have hR := below2 hR hb2
  have hsl := hsl.kept hb2
  clear hb2
  go_wp2_with fail
  refine (cV _).mono ?_
  rintro e w3 ⟨rfl, hb3⟩
  have p0 := (hb3.cell (p := ⟨w.heap.size, 0, none⟩) y1).trans p0
  have p1 := (hb3.cell (p := ⟨w.heap.size, 1, none⟩) y1).trans p1
  have p2 := (hb3.cell (p := ⟨w.heap.size, 2, none⟩) y1).trans p2
  have y1 : w.heap.size < w3.heap.size := by have := hb3.size; omega
  have hR := below2 hR hb3
  have hsl := hsl.kept hb3
  clear hb3
  go_wp2_with fail
  refine (gv _).mono ?_
  rintro e w4 ⟨rfl, hb4⟩
  have p0 := (hb4.cell (p := ⟨w.heap.size, 0, none⟩) y1).trans p0
  have p1 := (hb4.cell (p := ⟨w.heap.size, 1, none⟩) y1).trans p1
  have p2 := (hb4.cell (p := ⟨w.heap.size, 2, none⟩) y1).trans p2
  have y1 : w.heap.size < w4.heap.size := by have := hb4.size; omega
  have hR := below2 hR hb4
  have hsl := hsl.kept hb4
  clear hb4
  go_wp2_with fail
  refine (cF _ hsl).mono ?_
  rintro e w5 ⟨aF, cFc, rfl, slF, hb5⟩
  have p0 := (hb5.cell (p := ⟨w.heap.size, 0, none⟩) y1).trans p0
  have p1 := (hb5.cell (p := ⟨w.heap.size, 1, none⟩) y1).trans p1
  have p2 := (hb5.cell (p := ⟨w.heap.size, 2, none⟩) y1).trans p2
  have y1 : w.heap.size < w5.heap.size := by have := hb5.size; omega
  have hR := below2 hR hb5
  have hsl := hsl.kept hb5
  clear hb5
  go_wp2_with fail
  refine (cE aF cFc _ slF).mono ?_
  rintro e w6 ⟨rfl, hb6⟩
  have p0 := (hb6.cell (p := ⟨w.heap.size, 0, none⟩) y1).trans p0
  have p1 := (hb6.cell (p := ⟨w.heap.size, 1, none⟩) y1).trans p1
  have p2 := (hb6.cell (p := ⟨w.heap.size, 2, none⟩) y1).trans p2
  have y1 : w.heap.size < w6.heap.size := by have := hb6.size; omega
  have hR := below2 hR hb6
  have hsl := hsl.kept hb6
  clear hb6
  go_wp2_with fail
  refine (cDs _).mono ?_
  rintro e w7 ⟨rfl, hb7⟩
  have p0 := (hb7.cell (p := ⟨w.heap.size, 0, none⟩) y1).trans p0
  have p1 := (hb7.cell (p := ⟨w.heap.size, 1, none⟩) y1).trans p1
  have p2 := (hb7.cell (p := ⟨w.heap.size, 2, none⟩) y1).trans p2
  have y1 : w.heap.size < w7.heap.size := by have := hb7.size; omega
  have hR := below2 hR hb7
  have hsl := hsl.kept hb7
  clear hb7
  obtain ⟨W, hW⟩ : ∃ W, W = w7.alloc (.cells #[.int .i64 0, .int .i64 0, .string ⟨#[]⟩] 23) := ⟨_, rfl⟩
  have hR : Below w.heap.size w W := by rw [hW]; exact below2 hR (below_alloc1 w7 _)
  clear p0 p1 p2 y1 hsl
  go_wp2_with fail
  rw [← hW]
  clear hW
  have hR : Below w.heap.size w W.drew := hR.drew
  refine wp_region_held (S := fun _ => True) (by kernel_rfl) ?_
  change wpAnyH _ _ _ _ _ _ _ _ (World.drew _)
  refine takeD 0 98 (v := .bool false) rfl rfl (by kernel_rfl) (by kernel_rfl) (by kernel_rfl) (fun _ _ _ h => h) (Or.inl ⟨by kernel_rfl, fun _ _ => by kernel_rfl⟩) trivial ?_
  simp only [List.setIfInBounds_toArray, List.set_cons_zero, List.set_cons_succ]
  refine takeD 1 99 (v := .bool false) rfl rfl (by kernel_rfl) (by kernel_rfl) (by kernel_rfl) (fun _ _ _ h => h) (Or.inl ⟨by kernel_rfl, fun _ _ => by kernel_rfl⟩) trivial ?_
  simp only [List.setIfInBounds_toArray, List.set_cons_zero, List.set_cons_succ]
  refine takeD 2 100 (v := undef) rfl rfl (by kernel_rfl) (by kernel_rfl) (by kernel_rfl) (fun _ _ _ h => h) (Or.inr ⟨by kernel_rfl, rfl⟩) trivial ?_
  simp only [List.setIfInBounds_toArray, List.set_cons_zero, List.set_cons_succ]
  refine takeD 3 101 (v := undef) rfl rfl (by kernel_rfl) (by kernel_rfl) (by kernel_rfl) (fun _ _ _ h => h) (Or.inr ⟨by kernel_rfl, rfl⟩) trivial ?_
  simp only [List.setIfInBounds_toArray, List.set_cons_zero, List.set_cons_succ]
  refine takeD 4 102 (v := undef) rfl rfl (by kernel_rfl) (by kernel_rfl) (by kernel_rfl) (fun _ _ _ h => h) (Or.inr ⟨by kernel_rfl, rfl⟩) trivial ?_
  simp only [List.setIfInBounds_toArray, List.set_cons_zero, List.set_cons_succ]
  refine takeD 5 103 (v := undef) rfl rfl (by kernel_rfl) (by kernel_rfl) (by kernel_rfl) (fun _ _ _ h => h) (Or.inr ⟨by kernel_rfl, rfl⟩) trivial ?_
  simp only [List.setIfInBounds_toArray, List.set_cons_zero, List.set_cons_succ]
  refine takeD 6 104 (v := undef) rfl rfl (by kernel_rfl) (by kernel_rfl) (by kernel_rfl) (fun _ _ _ h => h) (Or.inr ⟨by kernel_rfl, rfl⟩) trivial ?_
  simp only [List.setIfInBounds_toArray, List.set_cons_zero, List.set_cons_succ]
  refine takeD 7 105 (v := undef) rfl rfl (by kernel_rfl) (by kernel_rfl) (by kernel_rfl) (fun _ _ _ h => h) (Or.inr ⟨by kernel_rfl, rfl⟩) trivial ?_
  simp only [List.setIfInBounds_toArray, List.set_cons_zero, List.set_cons_succ]
  refine takeD 8 106 (v := .bool false) rfl rfl (by kernel_rfl) (by kernel_rfl) (by kernel_rfl) (fun _ _ _ h => h) (Or.inl ⟨by kernel_rfl, fun _ _ => by kernel_rfl⟩) trivial ?_
  simp only [List.setIfInBounds_toArray, List.set_cons_zero, List.set_cons_succ]
  refine wpAnyH_done (by kernel_rfl) ?_ _
  go_wp2_with fail
  refine (cLs _).mono ?_
  rintro e w50 ⟨aK, cK, rfl, slK, hb50⟩
  have hR := below2 hR hb50
  clear hb50
  go_wp2_with fail
  refine (vwakes_any _).mono ?_
  rintro e w99 ⟨rfl, hb99⟩
  go_wp2_with fail
  go_ret
  exact ⟨rfl, below2 hR hb99⟩

set_option maxHeartbeats 4000000 in
set_option maxRecDepth 100000 in
theorem back_w1 (v : V) (L : List Pr) (a : Option Addr) (cap : Nat) (s : ByteArray) (w : World) (hsl : Sl w a L) (hcap : a = none → cap = 0) (hN : ∀ p ∈ L, -9223372036854775808 ≤ p.v.n ∧ p.v.n ≤ 9223372036854775807) (hn : -9223372036854775808 ≤ v.n ∧ v.n ≤ 9223372036854775807) (h0 : ¬ 5000 < v.s.size) (h1 : largeL L = false) (h2 : ¬ (100000 : Int) < (s.size : Int)) (hA : encV v = []) (hB : propsB L = false) (hC : (decV s 0).2.2 = false) (hD : (decL s 0).2.2 = true) :
    Calls Try.prog 7 #[v.val, .slice a L.length cap, .string s] w fun e w' => e = .returned (.bool true) ∧ Below w.heap.size w w' := by
  have h60 := (largeL_no h1).1
  have lv := fun w => largeValue_any v w _ (decide_eq_false h0)
  have cL := fun w h => largeProps_any L a cap w h
  rw [h1] at cL
  have cV := fun w => encode_any v w hn
  have cF := fun w h => few_any L a cap w h hcap (by omega)
  have cE := fun a' c' w h => encProps_any L a' c' w h hN
  have cDs := fun w => decode_any s 0 w (by omega)
  have cLs := fun w => decodeProps_any s 0 w (by omega)
  rw [hA] at cV
  have gv := fun w => refGood_any v w
  rw [show goodB v = false by cases hg : goodB v with | false => rfl | true => exact absurd hA (encV_some hg)] at gv
  clear hA
  have cV : ∀ w, Calls Try.prog 19 #[v.val] w fun e w' => e = .returned (.string ⟨#[]⟩) ∧ Below w.heap.size w w' := cV
  rw [show encR L = (⟨#[]⟩, 142) by unfold encR; rw [hB]; rfl] at cE
  clear hB
  simp only at cE
  rw [decV_no s 0 hC] at cDs
  clear hC
  simp only [gotW, noV] at cDs
  obtain ⟨hd1, hd2, hd3, hd4⟩ := decL_took s 0 (by exact hD)
  rw [show ((0 : Nat) : Int) = 0 from rfl] at hd1 hd2 hd3 hd4
  rw [List.drop_zero] at hd2
  have cEK := fun a' c' w h => encProps_any (decL s 0).1 a' c' w h (fun p hp => ⟨(hd4 p hp).c, (hd4 p hp).d⟩)
  rw [show encR (decL s 0).1 = (ba (encL (decL s 0).1), 0) by unfold encR; rw [if_pos hd1]] at cEK
  have hcut2 : ∀ W : World, (Instr.slice 9 (.string s) none (some (.int .i64 ((decL s 0).2.1 : Int))) none).run Try.prog W = .ok (.string (ba (encL (decL s 0).1))) W := by
    intro W
    rw [hd2, ← cut_first]
    have := run_slice_string_h (P := Try.prog) (w := W) (t := 9) (s := s) Try.underlying9 .i64 ((decL s 0).2.1 : Int) (by omega) (by omega)
    simpa using this
  clear hd1 hd2 hd3 hd4
  generalize decL s 0 = k at *
  obtain ⟨Kl, kz, kok⟩ := k
  simp only at hD
  subst hD
  simp only at *
  generalize ba (encL Kl) = Y at *
  clear hN hn h0 h1 hcap h60
  have hsl := hsl.kept (below_alloc1 w (.cells #[.int .i64 v.k, .int .i64 v.n, .string v.s] 23))
  obtain ⟨p0, p1, p2⟩ := B3.new w v 23 rfl
  have hR := below_alloc1 w (.cells #[.int .i64 v.k, .int .i64 v.n, .string v.s] 23)
  have y1 : w.heap.size < (w.alloc (.cells #[.int .i64 v.k, .int .i64 v.n, .string v.s] 23)).heap.size := by simp
  obtain ⟨ak, an, sa⟩ := v
  simp only [V.val] at *
  go_enter Try.func7, Try.ntmps7
  go_wp2_with fail
  refine (lv _).mono ?_
  rintro e w1 ⟨rfl, hb1⟩
  have p0 := (hb1.cell (p := ⟨w.heap.size, 0, none⟩) y1).trans p0
  have p1 := (hb1.cell (p := ⟨w.heap.size, 1, none⟩) y1).trans p1
  have p2 := (hb1.cell (p := ⟨w.heap.size, 2, none⟩) y1).trans p2
  have y1 : w.heap.size < w1.heap.size := by have := hb1.size; omega
  have hR := below2 hR hb1
  have hsl := hsl.kept hb1
  clear hb1
  go_wp2_with fail
  refine (cL _ hsl).mono ?_
  rintro e w2 ⟨rfl, hb2⟩
  have p0 := (hb2.cell (p := ⟨w.heap.size, 0, none⟩) y1).trans p0
  have p1 := (hb2.cell (p := ⟨w.heap.size, 1, none⟩) y1).trans p1
  have p2 := (hb2.cell (p := ⟨w.heap.size, 2, none⟩) y1).trans p2
  have y1 : w.heap.size < w2.heap.size := by have := hb2.size; omega
  have hR := below2 hR hb2
  have hsl := hsl.kept hb2
  clear hb2
  go_wp2_with fail
  refine (cV _).mono ?_
  rintro e w3 ⟨rfl, hb3⟩
  have p0 := (hb3.cell (p := ⟨w.heap.size, 0, none⟩) y1).trans p0
  have p1 := (hb3.cell (p := ⟨w.heap.size, 1, none⟩) y1).trans p1
  have p2 := (hb3.cell (p := ⟨w.heap.size, 2, none⟩) y1).trans p2
  have y1 : w.heap.size < w3.heap.size := by have := hb3.size; omega
  have hR := below2 hR hb3
  have hsl := hsl.kept hb3
  clear hb3
  go_wp2_with fail
  refine (gv _).mono ?_
  rintro e w4 ⟨rfl, hb4⟩
  have p0 := (hb4.cell (p := ⟨w.heap.size, 0, none⟩) y1).trans p0
  have p1 := (hb4.cell (p := ⟨w.heap.size, 1, none⟩) y1).trans p1
  have p2 := (hb4.cell (p := ⟨w.heap.size, 2, none⟩) y1).trans p2
  have y1 : w.heap.size < w4.heap.size := by have := hb4.size; omega
  have hR := below2 hR hb4
  have hsl := hsl.kept hb4
  clear hb4
  go_wp2_with fail
  refine (cF _ hsl).mono ?_
  rintro e w5 ⟨aF, cFc, rfl, slF, hb5⟩
  have p0 := (hb5.cell (p := ⟨w.heap.size, 0, none⟩) y1).trans p0
  have p1 := (hb5.cell (p := ⟨w.heap.size, 1, none⟩) y1).trans p1
  have p2 := (hb5.cell (p := ⟨w.heap.size, 2, none⟩) y1).trans p2
  have y1 : w.heap.size < w5.heap.size := by have := hb5.size; omega
  have hR := below2 hR hb5
  have hsl := hsl.kept hb5
  clear hb5
  go_wp2_with fail
  refine (cE aF cFc _ slF).mono ?_
  rintro e w6 ⟨rfl, hb6⟩
  have p0 := (hb6.cell (p := ⟨w.heap.size, 0, none⟩) y1).trans p0
  have p1 := (hb6.cell (p := ⟨w.heap.size, 1, none⟩) y1).trans p1
  have p2 := (hb6.cell (p := ⟨w.heap.size, 2, none⟩) y1).trans p2
  have y1 : w.heap.size < w6.heap.size := by have := hb6.size; omega
  have hR := below2 hR hb6
  have hsl := hsl.kept hb6
  clear hb6
  go_wp2_with fail
  refine (cDs _).mono ?_
  rintro e w7 ⟨rfl, hb7⟩
  have p0 := (hb7.cell (p := ⟨w.heap.size, 0, none⟩) y1).trans p0
  have p1 := (hb7.cell (p := ⟨w.heap.size, 1, none⟩) y1).trans p1
  have p2 := (hb7.cell (p := ⟨w.heap.size, 2, none⟩) y1).trans p2
  have y1 : w.heap.size < w7.heap.size := by have := hb7.size; omega
  have hR := below2 hR hb7
  have hsl := hsl.kept hb7
  clear hb7
  obtain ⟨W, hW⟩ : ∃ W, W = w7.alloc (.cells #[.int .i64 0, .int .i64 0, .string ⟨#[]⟩] 23) := ⟨_, rfl⟩
  have hR : Below w.heap.size w W := by rw [hW]; exact below2 hR (below_alloc1 w7 _)
  clear p0 p1 p2 y1 hsl
  go_wp2_with fail
  rw [← hW]
  clear hW
  have hR : Below w.heap.size w W.drew := hR.drew
  refine wp_region_held (S := fun _ => True) (by kernel_rfl) ?_
  change wpAnyH _ _ _ _ _ _ _ _ (World.drew _)
  refine takeD 0 98 (v := .bool false) rfl rfl (by kernel_rfl) (by kernel_rfl) (by kernel_rfl) (fun _ _ _ h => h) (Or.inl ⟨by kernel_rfl, fun _ _ => by kernel_rfl⟩) trivial ?_
  simp only [List.setIfInBounds_toArray, List.set_cons_zero, List.set_cons_succ]
  refine takeD 1 99 (v := .bool false) rfl rfl (by kernel_rfl) (by kernel_rfl) (by kernel_rfl) (fun _ _ _ h => h) (Or.inl ⟨by kernel_rfl, fun _ _ => by kernel_rfl⟩) trivial ?_
  simp only [List.setIfInBounds_toArray, List.set_cons_zero, List.set_cons_succ]
  refine takeD 2 100 (v := undef) rfl rfl (by kernel_rfl) (by kernel_rfl) (by kernel_rfl) (fun _ _ _ h => h) (Or.inr ⟨by kernel_rfl, rfl⟩) trivial ?_
  simp only [List.setIfInBounds_toArray, List.set_cons_zero, List.set_cons_succ]
  refine takeD 3 101 (v := undef) rfl rfl (by kernel_rfl) (by kernel_rfl) (by kernel_rfl) (fun _ _ _ h => h) (Or.inr ⟨by kernel_rfl, rfl⟩) trivial ?_
  simp only [List.setIfInBounds_toArray, List.set_cons_zero, List.set_cons_succ]
  refine takeD 4 102 (v := undef) rfl rfl (by kernel_rfl) (by kernel_rfl) (by kernel_rfl) (fun _ _ _ h => h) (Or.inr ⟨by kernel_rfl, rfl⟩) trivial ?_
  simp only [List.setIfInBounds_toArray, List.set_cons_zero, List.set_cons_succ]
  refine takeD 5 103 (v := undef) rfl rfl (by kernel_rfl) (by kernel_rfl) (by kernel_rfl) (fun _ _ _ h => h) (Or.inr ⟨by kernel_rfl, rfl⟩) trivial ?_
  simp only [List.setIfInBounds_toArray, List.set_cons_zero, List.set_cons_succ]
  refine takeD 6 104 (v := undef) rfl rfl (by kernel_rfl) (by kernel_rfl) (by kernel_rfl) (fun _ _ _ h => h) (Or.inr ⟨by kernel_rfl, rfl⟩) trivial ?_
  simp only [List.setIfInBounds_toArray, List.set_cons_zero, List.set_cons_succ]
  refine takeD 7 105 (v := undef) rfl rfl (by kernel_rfl) (by kernel_rfl) (by kernel_rfl) (fun _ _ _ h => h) (Or.inr ⟨by kernel_rfl, rfl⟩) trivial ?_
  simp only [List.setIfInBounds_toArray, List.set_cons_zero, List.set_cons_succ]
  refine takeD 8 106 (v := .bool false) rfl rfl (by kernel_rfl) (by kernel_rfl) (by kernel_rfl) (fun _ _ _ h => h) (Or.inl ⟨by kernel_rfl, fun _ _ => by kernel_rfl⟩) trivial ?_
  simp only [List.setIfInBounds_toArray, List.set_cons_zero, List.set_cons_succ]
  refine wpAnyH_done (by kernel_rfl) ?_ _
  go_wp2_with fail
  refine (cLs _).mono ?_
  rintro e w50 ⟨aK, cK, rfl, slK, hb50⟩
  have hR := below2 hR hb50
  clear hb50
  go_wp2_with fail
  refine (cEK aK cK _ slK).mono ?_
  rintro e w51 ⟨rfl, hb51⟩
  have hR := below2 hR hb51
  clear hb51
  go_wp2_with fail
  refine (vwakes_any _).mono ?_
  rintro e w99 ⟨rfl, hb99⟩
  go_wp2_with fail
  go_ret
  exact ⟨rfl, below2 hR hb99⟩

end Go.Proofs.Ytndbhalkhejgjaa
end

section
namespace Go.Proofs.Ytndbhalkhejgjaa
open Go.RowKit
attribute [local go_sem ↓] Go.wp_at_zero Go.wp_at_succ

set_option maxHeartbeats 4000000 in
set_option maxRecDepth 100000 in
theorem back_w2 (v : V) (L : List Pr) (a : Option Addr) (cap : Nat) (s : ByteArray) (w : World) (hsl : Sl w a L) (hcap : a = none → cap = 0) (hN : ∀ p ∈ L, -9223372036854775808 ≤ p.v.n ∧ p.v.n ≤ 9223372036854775807) (hn : -9223372036854775808 ≤ v.n ∧ v.n ≤ 9223372036854775807) (h0 : ¬ 5000 < v.s.size) (h1 : largeL L = false) (h2 : ¬ (100000 : Int) < (s.size : Int)) (hA : encV v = []) (hB : propsB L = false) (hC : (decV s 0).2.2 = true) (hD : (decL s 0).2.2 = false) :
    Calls Try.prog 7 #[v.val, .slice a L.length cap, .string s] w fun e w' => e = .returned (.bool true) ∧ Below w.heap.size w w' := by
  have h60 := (largeL_no h1).1
  have lv := fun w => largeValue_any v w _ (decide_eq_false h0)
  have cL := fun w h => largeProps_any L a cap w h
  rw [h1] at cL
  have cV := fun w => encode_any v w hn
  have cF := fun w h => few_any L a cap w h hcap (by omega)
  have cE := fun a' c' w h => encProps_any L a' c' w h hN
  have cDs := fun w => decode_any s 0 w (by omega)
  have cLs := fun w => decodeProps_any s 0 w (by omega)
  rw [hA] at cV
  have gv := fun w => refGood_any v w
  rw [show goodB v = false by cases hg : goodB v with | false => rfl | true => exact absurd hA (encV_some hg)] at gv
  clear hA
  have cV : ∀ w, Calls Try.prog 19 #[v.val] w fun e w' => e = .returned (.string ⟨#[]⟩) ∧ Below w.heap.size w w' := cV
  rw [show encR L = (⟨#[]⟩, 142) by unfold encR; rw [hB]; rfl] at cE
  clear hB
  simp only at cE
  obtain ⟨_, _, hc3, _, hc5, hc6⟩ := decV_in s 0 hC
  have hct := decV_took s 0 (by exact hC)
  rw [show ((0 : Nat) : Int) = 0 from rfl, List.drop_zero] at hct
  have cX := fun w => encode_any (decV s 0).1 w ⟨hc5, hc6⟩
  have hcut : ∀ W : World, (Instr.slice 9 (.string s) none (some (.int .i64 ((decV s 0).2.1 : Int))) none).run Try.prog W = .ok (.string (ba (encV (decV s 0).1))) W := by
    intro W
    rw [hct, ← cut_first]
    have := run_slice_string_h (P := Try.prog) (w := W) (t := 9) (s := s) Try.underlying9 .i64 ((decV s 0).2.1 : Int) (by omega) (by rw [show (0 : Int).toNat = 0 from rfl] at hc3; omega)
    simpa using this
  clear hct hc3 hc5 hc6
  generalize decV s 0 = d at *
  obtain ⟨⟨xk, xn, xs⟩, xz, xok⟩ := d
  simp only at hC
  subst hC
  simp only [gotW] at *
  generalize ba (encV ⟨xk, xn, xs⟩) = X at *
  rw [decL_no s 0 hD] at cLs
  clear hD
  clear hN hn h0 h1 hcap h60
  have hsl := hsl.kept (below_alloc1 w (.cells #[.int .i64 v.k, .int .i64 v.n, .string v.s] 23))
  obtain ⟨p0, p1, p2⟩ := B3.new w v 23 rfl
  have hR := below_alloc1 w (.cells #[.int .i64 v.k, .int .i64 v.n, .string v.s] 23)
  have y1 : w.heap.size < (w.alloc (.cells #[.int .i64 v.k, .int .i64 v.n, .string v.s] 23)).heap.size := by simp
  obtain ⟨ak, an, sa⟩ := v
  simp only [V.val] at *
  go_enter Try.func7, Try.ntmps7
  go_wp2_with fail
  refine (lv _).mono ?_
  rintro e w1 ⟨rfl, hb1⟩
  have p0 := (hb1.cell (p := ⟨w.heap.size, 0, none⟩) y1).trans p0
  have p1 := (hb1.cell (p := ⟨w.heap.size, 1, none⟩) y1).trans p1
  have p2 := (hb1.cell (p := ⟨w.heap.size, 2, none⟩) y1).trans p2
  have y1 : w.heap.size < w1.heap.size := by have := hb1.size; omega
  have hR := below2 hR hb1
  have hsl := hsl.kept hb1
  clear hb1
  go_wp2_with fail
  refine (cL _ hsl).mono ?_
  rintro e w2 ⟨rfl, hb2⟩
  have p0 := (hb2.cell (p := ⟨w.heap.size, 0, none⟩) y1).trans p0
  have p1 := (hb2.cell (p := ⟨w.heap.size, 1, none⟩) y1).trans p1
  have p2 := (hb2.cell (p := ⟨w.heap.size, 2, none⟩) y1).trans p2
  have y1 : w.heap.size < w2.heap.size := by have := hb2.size; omega
  have hR := below2 hR hb2
  have hsl := hsl.kept hb2
  clear hb2
  go_wp2_with fail
  refine (cV _).mono ?_
  rintro e w3 ⟨rfl, hb3⟩
  have p0 := (hb3.cell (p := ⟨w.heap.size, 0, none⟩) y1).trans p0
  have p1 := (hb3.cell (p := ⟨w.heap.size, 1, none⟩) y1).trans p1
  have p2 := (hb3.cell (p := ⟨w.heap.size, 2, none⟩) y1).trans p2
  have y1 : w.heap.size < w3.heap.size := by have := hb3.size; omega
  have hR := below2 hR hb3
  have hsl := hsl.kept hb3
  clear hb3
  go_wp2_with fail
  refine (gv _).mono ?_
  rintro e w4 ⟨rfl, hb4⟩
  have p0 := (hb4.cell (p := ⟨w.heap.size, 0, none⟩) y1).trans p0
  have p1 := (hb4.cell (p := ⟨w.heap.size, 1, none⟩) y1).trans p1
  have p2 := (hb4.cell (p := ⟨w.heap.size, 2, none⟩) y1).trans p2
  have y1 : w.heap.size < w4.heap.size := by have := hb4.size; omega
  have hR := below2 hR hb4
  have hsl := hsl.kept hb4
  clear hb4
  go_wp2_with fail
  refine (cF _ hsl).mono ?_
  rintro e w5 ⟨aF, cFc, rfl, slF, hb5⟩
  have p0 := (hb5.cell (p := ⟨w.heap.size, 0, none⟩) y1).trans p0
  have p1 := (hb5.cell (p := ⟨w.heap.size, 1, none⟩) y1).trans p1
  have p2 := (hb5.cell (p := ⟨w.heap.size, 2, none⟩) y1).trans p2
  have y1 : w.heap.size < w5.heap.size := by have := hb5.size; omega
  have hR := below2 hR hb5
  have hsl := hsl.kept hb5
  clear hb5
  go_wp2_with fail
  refine (cE aF cFc _ slF).mono ?_
  rintro e w6 ⟨rfl, hb6⟩
  have p0 := (hb6.cell (p := ⟨w.heap.size, 0, none⟩) y1).trans p0
  have p1 := (hb6.cell (p := ⟨w.heap.size, 1, none⟩) y1).trans p1
  have p2 := (hb6.cell (p := ⟨w.heap.size, 2, none⟩) y1).trans p2
  have y1 : w.heap.size < w6.heap.size := by have := hb6.size; omega
  have hR := below2 hR hb6
  have hsl := hsl.kept hb6
  clear hb6
  go_wp2_with fail
  refine (cDs _).mono ?_
  rintro e w7 ⟨rfl, hb7⟩
  have p0 := (hb7.cell (p := ⟨w.heap.size, 0, none⟩) y1).trans p0
  have p1 := (hb7.cell (p := ⟨w.heap.size, 1, none⟩) y1).trans p1
  have p2 := (hb7.cell (p := ⟨w.heap.size, 2, none⟩) y1).trans p2
  have y1 : w.heap.size < w7.heap.size := by have := hb7.size; omega
  have hR := below2 hR hb7
  have hsl := hsl.kept hb7
  clear hb7
  obtain ⟨W, hW⟩ : ∃ W, W = w7.alloc (.cells #[.int .i64 xk, .int .i64 xn, .string xs] 23) := ⟨_, rfl⟩
  have hR : Below w.heap.size w W := by rw [hW]; exact below2 hR (below_alloc1 w7 _)
  obtain ⟨x0, x1, x2⟩ : B3 W w7.heap.size ⟨xk, xn, xs⟩ := by rw [hW]; exact B3.new w7 ⟨xk, xn, xs⟩ _ rfl
  simp only at x0 x1 x2
  have y2 : w7.heap.size < W.heap.size := by rw [hW]; simp
  clear p0 p1 p2 y1 hsl
  go_wp2_with fail
  rw [← hW]
  clear hW
  go_region_held3 (fun W => W.cell? ⟨w7.heap.size, 0, none⟩ = some (.int .i64 xk) ∧ W.cell? ⟨w7.heap.size, 1, none⟩ = some (.int .i64 xn) ∧ W.cell? ⟨w7.heap.size, 2, none⟩ = some (.string xs))
    (first | exact ⟨(hB.cell (p := ⟨w7.heap.size, 0, none⟩) y2).trans x0, (hB.cell (p := ⟨w7.heap.size, 1, none⟩) y2).trans x1, (hB.cell (p := ⟨w7.heap.size, 2, none⟩) y2).trans x2⟩ | go_keep)
    ((go_at_call 19; refine (cX _).mono ?_; rintro e wA ⟨rfl, hbA⟩; have hB := drew_below hbA))
  have hR := below2 hR hB
  clear hB x0 x1 x2 y2
  go_wp2_with fail
  refine (cLs _).mono ?_
  rintro e w50 ⟨aK, cK, rfl, slK, hb50⟩
  have hR := below2 hR hb50
  clear hb50
  go_wp2_with fail
  refine (vwakes_any _).mono ?_
  rintro e w99 ⟨rfl, hb99⟩
  go_wp2_with fail
  go_ret
  exact ⟨rfl, below2 hR hb99⟩

set_option maxHeartbeats 4000000 in
set_option maxRecDepth 100000 in
theorem back_w3 (v : V) (L : List Pr) (a : Option Addr) (cap : Nat) (s : ByteArray) (w : World) (hsl : Sl w a L) (hcap : a = none → cap = 0) (hN : ∀ p ∈ L, -9223372036854775808 ≤ p.v.n ∧ p.v.n ≤ 9223372036854775807) (hn : -9223372036854775808 ≤ v.n ∧ v.n ≤ 9223372036854775807) (h0 : ¬ 5000 < v.s.size) (h1 : largeL L = false) (h2 : ¬ (100000 : Int) < (s.size : Int)) (hA : encV v = []) (hB : propsB L = false) (hC : (decV s 0).2.2 = true) (hD : (decL s 0).2.2 = true) :
    Calls Try.prog 7 #[v.val, .slice a L.length cap, .string s] w fun e w' => e = .returned (.bool true) ∧ Below w.heap.size w w' := by
  have h60 := (largeL_no h1).1
  have lv := fun w => largeValue_any v w _ (decide_eq_false h0)
  have cL := fun w h => largeProps_any L a cap w h
  rw [h1] at cL
  have cV := fun w => encode_any v w hn
  have cF := fun w h => few_any L a cap w h hcap (by omega)
  have cE := fun a' c' w h => encProps_any L a' c' w h hN
  have cDs := fun w => decode_any s 0 w (by omega)
  have cLs := fun w => decodeProps_any s 0 w (by omega)
  rw [hA] at cV
  have gv := fun w => refGood_any v w
  rw [show goodB v = false by cases hg : goodB v with | false => rfl | true => exact absurd hA (encV_some hg)] at gv
  clear hA
  have cV : ∀ w, Calls Try.prog 19 #[v.val] w fun e w' => e = .returned (.string ⟨#[]⟩) ∧ Below w.heap.size w w' := cV
  rw [show encR L = (⟨#[]⟩, 142) by unfold encR; rw [hB]; rfl] at cE
  clear hB
  simp only at cE
  obtain ⟨_, _, hc3, _, hc5, hc6⟩ := decV_in s 0 hC
  have hct := decV_took s 0 (by exact hC)
  rw [show ((0 : Nat) : Int) = 0 from rfl, List.drop_zero] at hct
  have cX := fun w => encode_any (decV s 0).1 w ⟨hc5, hc6⟩
  have hcut : ∀ W : World, (Instr.slice 9 (.string s) none (some (.int .i64 ((decV s 0).2.1 : Int))) none).run Try.prog W = .ok (.string (ba (encV (decV s 0).1))) W := by
    intro W
    rw [hct, ← cut_first]
    have := run_slice_string_h (P := Try.prog) (w := W) (t := 9) (s := s) Try.underlying9 .i64 ((decV s 0).2.1 : Int) (by omega) (by rw [show (0 : Int).toNat = 0 from rfl] at hc3; omega)
    simpa using this
  clear hct hc3 hc5 hc6
  generalize decV s 0 = d at *
  obtain ⟨⟨xk, xn, xs⟩, xz, xok⟩ := d
  simp only at hC
  subst hC
  simp only [gotW] at *
  generalize ba (encV ⟨xk, xn, xs⟩) = X at *
  obtain ⟨hd1, hd2, hd3, hd4⟩ := decL_took s 0 (by exact hD)
  rw [show ((0 : Nat) : Int) = 0 from rfl] at hd1 hd2 hd3 hd4
  rw [List.drop_zero] at hd2
  have cEK := fun a' c' w h => encProps_any (decL s 0).1 a' c' w h (fun p hp => ⟨(hd4 p hp).c, (hd4 p hp).d⟩)
  rw [show encR (decL s 0).1 = (ba (encL (decL s 0).1), 0) by unfold encR; rw [if_pos hd1]] at cEK
  have hcut2 : ∀ W : World, (Instr.slice 9 (.string s) none (some (.int .i64 ((decL s 0).2.1 : Int))) none).run Try.prog W = .ok (.string (ba (encL (decL s 0).1))) W := by
    intro W
    rw [hd2, ← cut_first]
    have := run_slice_string_h (P := Try.prog) (w := W) (t := 9) (s := s) Try.underlying9 .i64 ((decL s 0).2.1 : Int) (by omega) (by omega)
    simpa using this
  clear hd1 hd2 hd3 hd4
  generalize decL s 0 = k at *
  obtain ⟨Kl, kz, kok⟩ := k
  simp only at hD
  subst hD
  simp only at *
  generalize ba (encL Kl) = Y at *
  clear hN hn h0 h1 hcap h60
  have hsl := hsl.kept (below_alloc1 w (.cells #[.int .i64 v.k, .int .i64 v.n, .string v.s] 23))
  obtain ⟨p0, p1, p2⟩ := B3.new w v 23 rfl
  have hR := below_alloc1 w (.cells #[.int .i64 v.k, .int .i64 v.n, .string v.s] 23)
  have y1 : w.heap.size < (w.alloc (.cells #[.int .i64 v.k, .int .i64 v.n, .string v.s] 23)).heap.size := by simp
  obtain ⟨ak, an, sa⟩ := v
  simp only [V.val] at *
  go_enter Try.func7, Try.ntmps7
  go_wp2_with fail
  refine (lv _).mono ?_
  rintro e w1 ⟨rfl, hb1⟩
  have p0 := (hb1.cell (p := ⟨w.heap.size, 0, none⟩) y1).trans p0
  have p1 := (hb1.cell (p := ⟨w.heap.size, 1, none⟩) y1).trans p1
  have p2 := (hb1.cell (p := ⟨w.heap.size, 2, none⟩) y1).trans p2
  have y1 : w.heap.size < w1.heap.size := by have := hb1.size; omega
  have hR := below2 hR hb1
  have hsl := hsl.kept hb1
  clear hb1
  go_wp2_with fail
  refine (cL _ hsl).mono ?_
  rintro e w2 ⟨rfl, hb2⟩
  have p0 := (hb2.cell (p := ⟨w.heap.size, 0, none⟩) y1).trans p0
  have p1 := (hb2.cell (p := ⟨w.heap.size, 1, none⟩) y1).trans p1
  have p2 := (hb2.cell (p := ⟨w.heap.size, 2, none⟩) y1).trans p2
  have y1 : w.heap.size < w2.heap.size := by have := hb2.size; omega
  have hR := below2 hR hb2
  have hsl := hsl.kept hb2
  clear hb2
  go_wp2_with fail
  refine (cV _).mono ?_
  rintro e w3 ⟨rfl, hb3⟩
  have p0 := (hb3.cell (p := ⟨w.heap.size, 0, none⟩) y1).trans p0
  have p1 := (hb3.cell (p := ⟨w.heap.size, 1, none⟩) y1).trans p1
  have p2 := (hb3.cell (p := ⟨w.heap.size, 2, none⟩) y1).trans p2
  have y1 : w.heap.size < w3.heap.size := by have := hb3.size; omega
  have hR := below2 hR hb3
  have hsl := hsl.kept hb3
  clear hb3
  go_wp2_with fail
  refine (gv _).mono ?_
  rintro e w4 ⟨rfl, hb4⟩
  have p0 := (hb4.cell (p := ⟨w.heap.size, 0, none⟩) y1).trans p0
  have p1 := (hb4.cell (p := ⟨w.heap.size, 1, none⟩) y1).trans p1
  have p2 := (hb4.cell (p := ⟨w.heap.size, 2, none⟩) y1).trans p2
  have y1 : w.heap.size < w4.heap.size := by have := hb4.size; omega
  have hR := below2 hR hb4
  have hsl := hsl.kept hb4
  clear hb4
  go_wp2_with fail
  refine (cF _ hsl).mono ?_
  rintro e w5 ⟨aF, cFc, rfl, slF, hb5⟩
  have p0 := (hb5.cell (p := ⟨w.heap.size, 0, none⟩) y1).trans p0
  have p1 := (hb5.cell (p := ⟨w.heap.size, 1, none⟩) y1).trans p1
  have p2 := (hb5.cell (p := ⟨w.heap.size, 2, none⟩) y1).trans p2
  have y1 : w.heap.size < w5.heap.size := by have := hb5.size; omega
  have hR := below2 hR hb5
  have hsl := hsl.kept hb5
  clear hb5
  go_wp2_with fail
  refine (cE aF cFc _ slF).mono ?_
  rintro e w6 ⟨rfl, hb6⟩
  have p0 := (hb6.cell (p := ⟨w.heap.size, 0, none⟩) y1).trans p0
  have p1 := (hb6.cell (p := ⟨w.heap.size, 1, none⟩) y1).trans p1
  have p2 := (hb6.cell (p := ⟨w.heap.size, 2, none⟩) y1).trans p2
  have y1 : w.heap.size < w6.heap.size := by have := hb6.size; omega
  have hR := below2 hR hb6
  have hsl := hsl.kept hb6
  clear hb6
  go_wp2_with fail
  refine (cDs _).mono ?_
  rintro e w7 ⟨rfl, hb7⟩
  have p0 := (hb7.cell (p := ⟨w.heap.size, 0, none⟩) y1).trans p0
  have p1 := (hb7.cell (p := ⟨w.heap.size, 1, none⟩) y1).trans p1
  have p2 := (hb7.cell (p := ⟨w.heap.size, 2, none⟩) y1).trans p2
  have y1 : w.heap.size < w7.heap.size := by have := hb7.size; omega
  have hR := below2 hR hb7
  have hsl := hsl.kept hb7
  clear hb7
  obtain ⟨W, hW⟩ : ∃ W, W = w7.alloc (.cells #[.int .i64 xk, .int .i64 xn, .string xs] 23) := ⟨_, rfl⟩
  have hR : Below w.heap.size w W := by rw [hW]; exact below2 hR (below_alloc1 w7 _)
  obtain ⟨x0, x1, x2⟩ : B3 W w7.heap.size ⟨xk, xn, xs⟩ := by rw [hW]; exact B3.new w7 ⟨xk, xn, xs⟩ _ rfl
  simp only at x0 x1 x2
  have y2 : w7.heap.size < W.heap.size := by rw [hW]; simp
  clear p0 p1 p2 y1 hsl
  go_wp2_with fail
  rw [← hW]
  clear hW
  go_region_held3 (fun W => W.cell? ⟨w7.heap.size, 0, none⟩ = some (.int .i64 xk) ∧ W.cell? ⟨w7.heap.size, 1, none⟩ = some (.int .i64 xn) ∧ W.cell? ⟨w7.heap.size, 2, none⟩ = some (.string xs))
    (first | exact ⟨(hB.cell (p := ⟨w7.heap.size, 0, none⟩) y2).trans x0, (hB.cell (p := ⟨w7.heap.size, 1, none⟩) y2).trans x1, (hB.cell (p := ⟨w7.heap.size, 2, none⟩) y2).trans x2⟩ | go_keep)
    ((go_at_call 19; refine (cX _).mono ?_; rintro e wA ⟨rfl, hbA⟩; have hB := drew_below hbA))
  have hR := below2 hR hB
  clear hB x0 x1 x2 y2
  go_wp2_with fail
  refine (cLs _).mono ?_
  rintro e w50 ⟨aK, cK, rfl, slK, hb50⟩
  have hR := below2 hR hb50
  clear hb50
  go_wp2_with fail
  refine (cEK aK cK _ slK).mono ?_
  rintro e w51 ⟨rfl, hb51⟩
  have hR := below2 hR hb51
  clear hb51
  go_wp2_with fail
  refine (vwakes_any _).mono ?_
  rintro e w99 ⟨rfl, hb99⟩
  go_wp2_with fail
  go_ret
  exact ⟨rfl, below2 hR hb99⟩

end Go.Proofs.Ytndbhalkhejgjaa
end

section
namespace Go.Proofs.Ytndbhalkhejgjaa
open Go.RowKit
attribute [local go_sem ↓] Go.wp_at_zero Go.wp_at_succ

set_option maxHeartbeats 4000000 in
set_option maxRecDepth 100000 in
theorem back_w4 (v : V) (L : List Pr) (a : Option Addr) (cap : Nat) (s : ByteArray) (w : World) (hsl : Sl w a L) (hcap : a = none → cap = 0) (hN : ∀ p ∈ L, -9223372036854775808 ≤ p.v.n ∧ p.v.n ≤ 9223372036854775807) (hn : -9223372036854775808 ≤ v.n ∧ v.n ≤ 9223372036854775807) (h0 : ¬ 5000 < v.s.size) (h1 : largeL L = false) (h2 : ¬ (100000 : Int) < (s.size : Int)) (hA : encV v = []) (hB : propsB L = true) (hC : (decV s 0).2.2 = false) (hD : (decL s 0).2.2 = false) :
    Calls Try.prog 7 #[v.val, .slice a L.length cap, .string s] w fun e w' => e = .returned (.bool true) ∧ Below w.heap.size w w' := by
  have h60 := (largeL_no h1).1
  have lv := fun w => largeValue_any v w _ (decide_eq_false h0)
  have cL := fun w h => largeProps_any L a cap w h
  rw [h1] at cL
  have cV := fun w => encode_any v w hn
  have cF := fun w h => few_any L a cap w h hcap (by omega)
  have cE := fun a' c' w h => encProps_any L a' c' w h hN
  have cDs := fun w => decode_any s 0 w (by omega)
  have cLs := fun w => decodeProps_any s 0 w (by omega)
  rw [hA] at cV
  have gv := fun w => refGood_any v w
  rw [show goodB v = false by cases hg : goodB v with | false => rfl | true => exact absurd hA (encV_some hg)] at gv
  clear hA
  have cV : ∀ w, Calls Try.prog 19 #[v.val] w fun e w' => e = .returned (.string ⟨#[]⟩) ∧ Below w.heap.size w w' := cV
  have hE2 := decL_enc (ba ([120] ++ encL L)) 1 L [] (by rw [data_ba, List.append_nil]; rfl) hB hN
  rw [show ((1 : Nat) : Int) = 1 from rfl] at hE2
  have hle2 := encL_le hB
  have cDL := fun w => decodeProps_any (ba ([120] ++ encL L)) 1 w (by rw [ba_len, List.length_append, List.length_singleton]; omega)
  rw [hE2, ← ba_len (encL L)] at cDL
  have hadd2 : ∀ W, (Op.stringOp .add ⟨#[120]⟩ (ba (encL L))).run Try.prog W = .ok (.string (ba ([120] ++ encL L))) W := fun W => run_add_ba [120] (encL L) (by rw [List.length_singleton]; omega) W
  rw [show encR L = (ba (encL L), 0) by unfold encR; rw [if_pos hB]] at cE
  have cKL := fun aX cX w h h' => keepProps_any L aX a cX cap w h h' (by omega)
  clear hE2 hle2 hB
  generalize ba ([120] ++ encL L) = U1 at *
  generalize ba (encL L) = U at *
  simp only at cDL cE
  rw [decV_no s 0 hC] at cDs
  clear hC
  simp only [gotW, noV] at cDs
  rw [decL_no s 0 hD] at cLs
  clear hD
  clear hN hn h0 h1 hcap h60
  have hsl := hsl.kept (below_alloc1 w (.cells #[.int .i64 v.k, .int .i64 v.n, .string v.s] 23))
  obtain ⟨p0, p1, p2⟩ := B3.new w v 23 rfl
  have hR := below_alloc1 w (.cells #[.int .i64 v.k, .int .i64 v.n, .string v.s] 23)
  have y1 : w.heap.size < (w.alloc (.cells #[.int .i64 v.k, .int .i64 v.n, .string v.s] 23)).heap.size := by simp
  obtain ⟨ak, an, sa⟩ := v
  simp only [V.val] at *
  go_enter Try.func7, Try.ntmps7
  go_wp2_with fail
  refine (lv _).mono ?_
  rintro e w1 ⟨rfl, hb1⟩
  have p0 := (hb1.cell (p := ⟨w.heap.size, 0, none⟩) y1).trans p0
  have p1 := (hb1.cell (p := ⟨w.heap.size, 1, none⟩) y1).trans p1
  have p2 := (hb1.cell (p := ⟨w.heap.size, 2, none⟩) y1).trans p2
  have y1 : w.heap.size < w1.heap.size := by have := hb1.size; omega
  have hR := below2 hR hb1
  have hsl := hsl.kept hb1
  clear hb1
  go_wp2_with fail
  refine (cL _ hsl).mono ?_
  rintro e w2 ⟨rfl, hb2⟩
  have p0 := (hb2.cell (p := ⟨w.heap.size, 0, none⟩) y1).trans p0
  have p1 := (hb2.cell (p := ⟨w.heap.size, 1, none⟩) y1).trans p1
  have p2 := (hb2.cell (p := ⟨w.heap.size, 2, none⟩) y1).trans p2
  have y1 : w.heap.size < w2.heap.size := by have := hb2.size; omega
  have hR := below2 hR hb2
  have hsl := hsl.kept hb2
  clear hb2
  go_wp2_with fail
  refine (cV _).mono ?_
  rintro e w3 ⟨rfl, hb3⟩
  have p0 := (hb3.cell (p := ⟨w.heap.size, 0, none⟩) y1).trans p0
  have p1 := (hb3.cell (p := ⟨w.heap.size, 1, none⟩) y1).trans p1
  have p2 := (hb3.cell (p := ⟨w.heap.size, 2, none⟩) y1).trans p2
  have y1 : w.heap.size < w3.heap.size := by have := hb3.size; omega
  have hR := below2 hR hb3
  have hsl := hsl.kept hb3
  clear hb3
  go_wp2_with fail
  refine (gv _).mono ?_
  rintro e w4 ⟨rfl, hb4⟩
  have p0 := (hb4.cell (p := ⟨w.heap.size, 0, none⟩) y1).trans p0
  have p1 := (hb4.cell (p := ⟨w.heap.size, 1, none⟩) y1).trans p1
  have p2 := (hb4.cell (p := ⟨w.heap.size, 2, none⟩) y1).trans p2
  have y1 : w.heap.size < w4.heap.size := by have := hb4.size; omega
  have hR := below2 hR hb4
  have hsl := hsl.kept hb4
  clear hb4
  go_wp2_with fail
  refine (cF _ hsl).mono ?_
  rintro e w5 ⟨aF, cFc, rfl, slF, hb5⟩
  have p0 := (hb5.cell (p := ⟨w.heap.size, 0, none⟩) y1).trans p0
  have p1 := (hb5.cell (p := ⟨w.heap.size, 1, none⟩) y1).trans p1
  have p2 := (hb5.cell (p := ⟨w.heap.size, 2, none⟩) y1).trans p2
  have y1 : w.heap.size < w5.heap.size := by have := hb5.size; omega
  have hR := below2 hR hb5
  have hsl := hsl.kept hb5
  clear hb5
  go_wp2_with fail
  refine (cE aF cFc _ slF).mono ?_
  rintro e w6 ⟨rfl, hb6⟩
  have p0 := (hb6.cell (p := ⟨w.heap.size, 0, none⟩) y1).trans p0
  have p1 := (hb6.cell (p := ⟨w.heap.size, 1, none⟩) y1).trans p1
  have p2 := (hb6.cell (p := ⟨w.heap.size, 2, none⟩) y1).trans p2
  have y1 : w.heap.size < w6.heap.size := by have := hb6.size; omega
  have hR := below2 hR hb6
  have hsl := hsl.kept hb6
  clear hb6
  go_wp2_with fail
  refine (cDL _).mono ?_
  rintro e w7 ⟨aX, cX', rfl, slX, hb7⟩
  have p0 := (hb7.cell (p := ⟨w.heap.size, 0, none⟩) y1).trans p0
  have p1 := (hb7.cell (p := ⟨w.heap.size, 1, none⟩) y1).trans p1
  have p2 := (hb7.cell (p := ⟨w.heap.size, 2, none⟩) y1).trans p2
  have y1 : w.heap.size < w7.heap.size := by have := hb7.size; omega
  have hR := below2 hR hb7
  have hsl := hsl.kept hb7
  clear hb7
  go_wp2_with fail
  refine (cKL aX cX' _ slX hsl).mono ?_
  rintro e w8 ⟨rfl, hb8⟩
  have p0 := (hb8.cell (p := ⟨w.heap.size, 0, none⟩) y1).trans p0
  have p1 := (hb8.cell (p := ⟨w.heap.size, 1, none⟩) y1).trans p1
  have p2 := (hb8.cell (p := ⟨w.heap.size, 2, none⟩) y1).trans p2
  have y1 : w.heap.size < w8.heap.size := by have := hb8.size; omega
  have hR := below2 hR hb8
  have hsl := hsl.kept hb8
  clear hb8
  go_wp2_with fail
  refine (cDs _).mono ?_
  rintro e w9 ⟨rfl, hb9⟩
  have p0 := (hb9.cell (p := ⟨w.heap.size, 0, none⟩) y1).trans p0
  have p1 := (hb9.cell (p := ⟨w.heap.size, 1, none⟩) y1).trans p1
  have p2 := (hb9.cell (p := ⟨w.heap.size, 2, none⟩) y1).trans p2
  have y1 : w.heap.size < w9.heap.size := by have := hb9.size; omega
  have hR := below2 hR hb9
  have hsl := hsl.kept hb9
  clear hb9
  obtain ⟨W, hW⟩ : ∃ W, W = w9.alloc (.cells #[.int .i64 0, .int .i64 0, .string ⟨#[]⟩] 23) := ⟨_, rfl⟩
  have hR : Below w.heap.size w W := by rw [hW]; exact below2 hR (below_alloc1 w9 _)
  clear p0 p1 p2 y1 hsl
  go_wp2_with fail
  rw [← hW]
  clear hW
  have hR : Below w.heap.size w W.drew := hR.drew
  refine wp_region_held (S := fun _ => True) (by kernel_rfl) ?_
  change wpAnyH _ _ _ _ _ _ _ _ (World.drew _)
  refine takeD 0 98 (v := .bool false) rfl rfl (by kernel_rfl) (by kernel_rfl) (by kernel_rfl) (fun _ _ _ h => h) (Or.inl ⟨by kernel_rfl, fun _ _ => by kernel_rfl⟩) trivial ?_
  simp only [List.setIfInBounds_toArray, List.set_cons_zero, List.set_cons_succ]
  refine takeD 1 99 (v := .bool false) rfl rfl (by kernel_rfl) (by kernel_rfl) (by kernel_rfl) (fun _ _ _ h => h) (Or.inl ⟨by kernel_rfl, fun _ _ => by kernel_rfl⟩) trivial ?_
  simp only [List.setIfInBounds_toArray, List.set_cons_zero, List.set_cons_succ]
  refine takeD 2 100 (v := undef) rfl rfl (by kernel_rfl) (by kernel_rfl) (by kernel_rfl) (fun _ _ _ h => h) (Or.inr ⟨by kernel_rfl, rfl⟩) trivial ?_
  simp only [List.setIfInBounds_toArray, List.set_cons_zero, List.set_cons_succ]
  refine takeD 3 101 (v := undef) rfl rfl (by kernel_rfl) (by kernel_rfl) (by kernel_rfl) (fun _ _ _ h => h) (Or.inr ⟨by kernel_rfl, rfl⟩) trivial ?_
  simp only [List.setIfInBounds_toArray, List.set_cons_zero, List.set_cons_succ]
  refine takeD 4 102 (v := undef) rfl rfl (by kernel_rfl) (by kernel_rfl) (by kernel_rfl) (fun _ _ _ h => h) (Or.inr ⟨by kernel_rfl, rfl⟩) trivial ?_
  simp only [List.setIfInBounds_toArray, List.set_cons_zero, List.set_cons_succ]
  refine takeD 5 103 (v := undef) rfl rfl (by kernel_rfl) (by kernel_rfl) (by kernel_rfl) (fun _ _ _ h => h) (Or.inr ⟨by kernel_rfl, rfl⟩) trivial ?_
  simp only [List.setIfInBounds_toArray, List.set_cons_zero, List.set_cons_succ]
  refine takeD 6 104 (v := undef) rfl rfl (by kernel_rfl) (by kernel_rfl) (by kernel_rfl) (fun _ _ _ h => h) (Or.inr ⟨by kernel_rfl, rfl⟩) trivial ?_
  simp only [List.setIfInBounds_toArray, List.set_cons_zero, List.set_cons_succ]
  refine takeD 7 105 (v := undef) rfl rfl (by kernel_rfl) (by kernel_rfl) (by kernel_rfl) (fun _ _ _ h => h) (Or.inr ⟨by kernel_rfl, rfl⟩) trivial ?_
  simp only [List.setIfInBounds_toArray, List.set_cons_zero, List.set_cons_succ]
  refine takeD 8 106 (v := .bool false) rfl rfl (by kernel_rfl) (by kernel_rfl) (by kernel_rfl) (fun _ _ _ h => h) (Or.inl ⟨by kernel_rfl, fun _ _ => by kernel_rfl⟩) trivial ?_
  simp only [List.setIfInBounds_toArray, List.set_cons_zero, List.set_cons_succ]
  refine wpAnyH_done (by kernel_rfl) ?_ _
  go_wp2_with fail
  refine (cLs _).mono ?_
  rintro e w50 ⟨aK, cK, rfl, slK, hb50⟩
  have hR := below2 hR hb50
  clear hb50
  go_wp2_with fail
  refine (vwakes_any _).mono ?_
  rintro e w99 ⟨rfl, hb99⟩
  go_wp2_with fail
  go_ret
  exact ⟨rfl, below2 hR hb99⟩

set_option maxHeartbeats 4000000 in
set_option maxRecDepth 100000 in
theorem back_w5 (v : V) (L : List Pr) (a : Option Addr) (cap : Nat) (s : ByteArray) (w : World) (hsl : Sl w a L) (hcap : a = none → cap = 0) (hN : ∀ p ∈ L, -9223372036854775808 ≤ p.v.n ∧ p.v.n ≤ 9223372036854775807) (hn : -9223372036854775808 ≤ v.n ∧ v.n ≤ 9223372036854775807) (h0 : ¬ 5000 < v.s.size) (h1 : largeL L = false) (h2 : ¬ (100000 : Int) < (s.size : Int)) (hA : encV v = []) (hB : propsB L = true) (hC : (decV s 0).2.2 = false) (hD : (decL s 0).2.2 = true) :
    Calls Try.prog 7 #[v.val, .slice a L.length cap, .string s] w fun e w' => e = .returned (.bool true) ∧ Below w.heap.size w w' := by
  have h60 := (largeL_no h1).1
  have lv := fun w => largeValue_any v w _ (decide_eq_false h0)
  have cL := fun w h => largeProps_any L a cap w h
  rw [h1] at cL
  have cV := fun w => encode_any v w hn
  have cF := fun w h => few_any L a cap w h hcap (by omega)
  have cE := fun a' c' w h => encProps_any L a' c' w h hN
  have cDs := fun w => decode_any s 0 w (by omega)
  have cLs := fun w => decodeProps_any s 0 w (by omega)
  rw [hA] at cV
  have gv := fun w => refGood_any v w
  rw [show goodB v = false by cases hg : goodB v with | false => rfl | true => exact absurd hA (encV_some hg)] at gv
  clear hA
  have cV : ∀ w, Calls Try.prog 19 #[v.val] w fun e w' => e = .returned (.string ⟨#[]⟩) ∧ Below w.heap.size w w' := cV
  have hE2 := decL_enc (ba ([120] ++ encL L)) 1 L [] (by rw [data_ba, List.append_nil]; rfl) hB hN
  rw [show ((1 : Nat) : Int) = 1 from rfl] at hE2
  have hle2 := encL_le hB
  have cDL := fun w => decodeProps_any (ba ([120] ++ encL L)) 1 w (by rw [ba_len, List.length_append, List.length_singleton]; omega)
  rw [hE2, ← ba_len (encL L)] at cDL
  have hadd2 : ∀ W, (Op.stringOp .add ⟨#[120]⟩ (ba (encL L))).run Try.prog W = .ok (.string (ba ([120] ++ encL L))) W := fun W => run_add_ba [120] (encL L) (by rw [List.length_singleton]; omega) W
  rw [show encR L = (ba (encL L), 0) by unfold encR; rw [if_pos hB]] at cE
  have cKL := fun aX cX w h h' => keepProps_any L aX a cX cap w h h' (by omega)
  clear hE2 hle2 hB
  generalize ba ([120] ++ encL L) = U1 at *
  generalize ba (encL L) = U at *
  simp only at cDL cE
  rw [decV_no s 0 hC] at cDs
  clear hC
  simp only [gotW, noV] at cDs
  obtain ⟨hd1, hd2, hd3, hd4⟩ := decL_took s 0 (by exact hD)
  rw [show ((0 : Nat) : Int) = 0 from rfl] at hd1 hd2 hd3 hd4
  rw [List.drop_zero] at hd2
  have cEK := fun a' c' w h => encProps_any (decL s 0).1 a' c' w h (fun p hp => ⟨(hd4 p hp).c, (hd4 p hp).d⟩)
  rw [show encR (decL s 0).1 = (ba (encL (decL s 0).1), 0) by unfold encR; rw [if_pos hd1]] at cEK
  have hcut2 : ∀ W : World, (Instr.slice 9 (.string s) none (some (.int .i64 ((decL s 0).2.1 : Int))) none).run Try.prog W = .ok (.string (ba (encL (decL s 0).1))) W := by
    intro W
    rw [hd2, ← cut_first]
    have := run_slice_string_h (P := Try.prog) (w := W) (t := 9) (s := s) Try.underlying9 .i64 ((decL s 0).2.1 : Int) (by omega) (by omega)
    simpa using this
  clear hd1 hd2 hd3 hd4
  generalize decL s 0 = k at *
  obtain ⟨Kl, kz, kok⟩ := k
  simp only at hD
  subst hD
  simp only at *
  generalize ba (encL Kl) = Y at *
  clear hN hn h0 h1 hcap h60
  have hsl := hsl.kept (below_alloc1 w (.cells #[.int .i64 v.k, .int .i64 v.n, .string v.s] 23))
  obtain ⟨p0, p1, p2⟩ := B3.new w v 23 rfl
  have hR := below_alloc1 w (.cells #[.int .i64 v.k, .int .i64 v.n, .string v.s] 23)
  have y1 : w.heap.size < (w.alloc (.cells #[.int .i64 v.k, .int .i64 v.n, .string v.s] 23)).heap.size := by simp
  obtain ⟨ak, an, sa⟩ := v
  simp only [V.val] at *
  go_enter Try.func7, Try.ntmps7
  go_wp2_with fail
  refine (lv _).mono ?_
  rintro e w1 ⟨rfl, hb1⟩
  have p0 := (hb1.cell (p := ⟨w.heap.size, 0, none⟩) y1).trans p0
  have p1 := (hb1.cell (p := ⟨w.heap.size, 1, none⟩) y1).trans p1
  have p2 := (hb1.cell (p := ⟨w.heap.size, 2, none⟩) y1).trans p2
  have y1 : w.heap.size < w1.heap.size := by have := hb1.size; omega
  have hR := below2 hR hb1
  have hsl := hsl.kept hb1
  clear hb1
  go_wp2_with fail
  refine (cL _ hsl).mono ?_
  rintro e w2 ⟨rfl, hb2⟩
  have p0 := (hb2.cell (p := ⟨w.heap.size, 0, none⟩) y1).trans p0
  have p1 := (hb2.cell (p := ⟨w.heap.size, 1, none⟩) y1).trans p1
  have p2 := (hb2.cell (p := ⟨w.heap.size, 2, none⟩) y1).trans p2
  have y1 : w.heap.size < w2.heap.size := by have := hb2.size; omega
  have hR := below2 hR hb2
  have hsl := hsl.kept hb2
  clear hb2
  go_wp2_with fail
  refine (cV _).mono ?_
  rintro e w3 ⟨rfl, hb3⟩
  have p0 := (hb3.cell (p := ⟨w.heap.size, 0, none⟩) y1).trans p0
  have p1 := (hb3.cell (p := ⟨w.heap.size, 1, none⟩) y1).trans p1
  have p2 := (hb3.cell (p := ⟨w.heap.size, 2, none⟩) y1).trans p2
  have y1 : w.heap.size < w3.heap.size := by have := hb3.size; omega
  have hR := below2 hR hb3
  have hsl := hsl.kept hb3
  clear hb3
  go_wp2_with fail
  refine (gv _).mono ?_
  rintro e w4 ⟨rfl, hb4⟩
  have p0 := (hb4.cell (p := ⟨w.heap.size, 0, none⟩) y1).trans p0
  have p1 := (hb4.cell (p := ⟨w.heap.size, 1, none⟩) y1).trans p1
  have p2 := (hb4.cell (p := ⟨w.heap.size, 2, none⟩) y1).trans p2
  have y1 : w.heap.size < w4.heap.size := by have := hb4.size; omega
  have hR := below2 hR hb4
  have hsl := hsl.kept hb4
  clear hb4
  go_wp2_with fail
  refine (cF _ hsl).mono ?_
  rintro e w5 ⟨aF, cFc, rfl, slF, hb5⟩
  have p0 := (hb5.cell (p := ⟨w.heap.size, 0, none⟩) y1).trans p0
  have p1 := (hb5.cell (p := ⟨w.heap.size, 1, none⟩) y1).trans p1
  have p2 := (hb5.cell (p := ⟨w.heap.size, 2, none⟩) y1).trans p2
  have y1 : w.heap.size < w5.heap.size := by have := hb5.size; omega
  have hR := below2 hR hb5
  have hsl := hsl.kept hb5
  clear hb5
  go_wp2_with fail
  refine (cE aF cFc _ slF).mono ?_
  rintro e w6 ⟨rfl, hb6⟩
  have p0 := (hb6.cell (p := ⟨w.heap.size, 0, none⟩) y1).trans p0
  have p1 := (hb6.cell (p := ⟨w.heap.size, 1, none⟩) y1).trans p1
  have p2 := (hb6.cell (p := ⟨w.heap.size, 2, none⟩) y1).trans p2
  have y1 : w.heap.size < w6.heap.size := by have := hb6.size; omega
  have hR := below2 hR hb6
  have hsl := hsl.kept hb6
  clear hb6
  go_wp2_with fail
  refine (cDL _).mono ?_
  rintro e w7 ⟨aX, cX', rfl, slX, hb7⟩
  have p0 := (hb7.cell (p := ⟨w.heap.size, 0, none⟩) y1).trans p0
  have p1 := (hb7.cell (p := ⟨w.heap.size, 1, none⟩) y1).trans p1
  have p2 := (hb7.cell (p := ⟨w.heap.size, 2, none⟩) y1).trans p2
  have y1 : w.heap.size < w7.heap.size := by have := hb7.size; omega
  have hR := below2 hR hb7
  have hsl := hsl.kept hb7
  clear hb7
  go_wp2_with fail
  refine (cKL aX cX' _ slX hsl).mono ?_
  rintro e w8 ⟨rfl, hb8⟩
  have p0 := (hb8.cell (p := ⟨w.heap.size, 0, none⟩) y1).trans p0
  have p1 := (hb8.cell (p := ⟨w.heap.size, 1, none⟩) y1).trans p1
  have p2 := (hb8.cell (p := ⟨w.heap.size, 2, none⟩) y1).trans p2
  have y1 : w.heap.size < w8.heap.size := by have := hb8.size; omega
  have hR := below2 hR hb8
  have hsl := hsl.kept hb8
  clear hb8
  go_wp2_with fail
  refine (cDs _).mono ?_
  rintro e w9 ⟨rfl, hb9⟩
  have p0 := (hb9.cell (p := ⟨w.heap.size, 0, none⟩) y1).trans p0
  have p1 := (hb9.cell (p := ⟨w.heap.size, 1, none⟩) y1).trans p1
  have p2 := (hb9.cell (p := ⟨w.heap.size, 2, none⟩) y1).trans p2
  have y1 : w.heap.size < w9.heap.size := by have := hb9.size; omega
  have hR := below2 hR hb9
  have hsl := hsl.kept hb9
  clear hb9
  obtain ⟨W, hW⟩ : ∃ W, W = w9.alloc (.cells #[.int .i64 0, .int .i64 0, .string ⟨#[]⟩] 23) := ⟨_, rfl⟩
  have hR : Below w.heap.size w W := by rw [hW]; exact below2 hR (below_alloc1 w9 _)
  clear p0 p1 p2 y1 hsl
  go_wp2_with fail
  rw [← hW]
  clear hW
  have hR : Below w.heap.size w W.drew := hR.drew
  refine wp_region_held (S := fun _ => True) (by kernel_rfl) ?_
  change wpAnyH _ _ _ _ _ _ _ _ (World.drew _)
  refine takeD 0 98 (v := .bool false) rfl rfl (by kernel_rfl) (by kernel_rfl) (by kernel_rfl) (fun _ _ _ h => h) (Or.inl ⟨by kernel_rfl, fun _ _ => by kernel_rfl⟩) trivial ?_
  simp only [List.setIfInBounds_toArray, List.set_cons_zero, List.set_cons_succ]
  refine takeD 1 99 (v := .bool false) rfl rfl (by kernel_rfl) (by kernel_rfl) (by kernel_rfl) (fun _ _ _ h => h) (Or.inl ⟨by kernel_rfl, fun _ _ => by kernel_rfl⟩) trivial ?_
  simp only [List.setIfInBounds_toArray, List.set_cons_zero, List.set_cons_succ]
  refine takeD 2 100 (v := undef) rfl rfl (by kernel_rfl) (by kernel_rfl) (by kernel_rfl) (fun _ _ _ h => h) (Or.inr ⟨by kernel_rfl, rfl⟩) trivial ?_
  simp only [List.setIfInBounds_toArray, List.set_cons_zero, List.set_cons_succ]
  refine takeD 3 101 (v := undef) rfl rfl (by kernel_rfl) (by kernel_rfl) (by kernel_rfl) (fun _ _ _ h => h) (Or.inr ⟨by kernel_rfl, rfl⟩) trivial ?_
  simp only [List.setIfInBounds_toArray, List.set_cons_zero, List.set_cons_succ]
  refine takeD 4 102 (v := undef) rfl rfl (by kernel_rfl) (by kernel_rfl) (by kernel_rfl) (fun _ _ _ h => h) (Or.inr ⟨by kernel_rfl, rfl⟩) trivial ?_
  simp only [List.setIfInBounds_toArray, List.set_cons_zero, List.set_cons_succ]
  refine takeD 5 103 (v := undef) rfl rfl (by kernel_rfl) (by kernel_rfl) (by kernel_rfl) (fun _ _ _ h => h) (Or.inr ⟨by kernel_rfl, rfl⟩) trivial ?_
  simp only [List.setIfInBounds_toArray, List.set_cons_zero, List.set_cons_succ]
  refine takeD 6 104 (v := undef) rfl rfl (by kernel_rfl) (by kernel_rfl) (by kernel_rfl) (fun _ _ _ h => h) (Or.inr ⟨by kernel_rfl, rfl⟩) trivial ?_
  simp only [List.setIfInBounds_toArray, List.set_cons_zero, List.set_cons_succ]
  refine takeD 7 105 (v := undef) rfl rfl (by kernel_rfl) (by kernel_rfl) (by kernel_rfl) (fun _ _ _ h => h) (Or.inr ⟨by kernel_rfl, rfl⟩) trivial ?_
  simp only [List.setIfInBounds_toArray, List.set_cons_zero, List.set_cons_succ]
  refine takeD 8 106 (v := .bool false) rfl rfl (by kernel_rfl) (by kernel_rfl) (by kernel_rfl) (fun _ _ _ h => h) (Or.inl ⟨by kernel_rfl, fun _ _ => by kernel_rfl⟩) trivial ?_
  simp only [List.setIfInBounds_toArray, List.set_cons_zero, List.set_cons_succ]
  refine wpAnyH_done (by kernel_rfl) ?_ _
  go_wp2_with fail
  refine (cLs _).mono ?_
  rintro e w50 ⟨aK, cK, rfl, slK, hb50⟩
  have hR := below2 hR hb50
  clear hb50
  go_wp2_with fail
  refine (cEK aK cK _ slK).mono ?_
  rintro e w51 ⟨rfl, hb51⟩
  have hR := below2 hR hb51
  clear hb51
  go_wp2_with fail
  refine (vwakes_any _).mono ?_
  rintro e w99 ⟨rfl, hb99⟩
  go_wp2_with fail
  go_ret
  exact ⟨rfl, below2 hR hb99⟩

end Go.Proofs.Ytndbhalkhejgjaa
end

section
namespace Go.Proofs.Ytndbhalkhejgjaa
open Go.RowKit
attribute [local go_sem ↓] Go.wp_at_zero Go.wp_at_succ

set_option maxHeartbeats 4000000 in
set_option maxRecDepth 100000 in
theorem back_w6 (v : V) (L : List Pr) (a : Option Addr) (cap : Nat) (s : ByteArray) (w : World) (hsl : Sl w a L) (hcap : a = none → cap = 0) (hN : ∀ p ∈ L, -9223372036854775808 ≤ p.v.n ∧ p.v.n ≤ 9223372036854775807) (hn : -9223372036854775808 ≤ v.n ∧ v.n ≤ 9223372036854775807) (h0 : ¬ 5000 < v.s.size) (h1 : largeL L = false) (h2 : ¬ (100000 : Int) < (s.size : Int)) (hA : encV v = []) (hB : propsB L = true) (hC : (decV s 0).2.2 = true) (hD : (decL s 0).2.2 = false) :
    Calls Try.prog 7 #[v.val, .slice a L.length cap, .string s] w fun e w' => e = .returned (.bool true) ∧ Below w.heap.size w w' := by
  have h60 := (largeL_no h1).1
  have lv := fun w => largeValue_any v w _ (decide_eq_false h0)
  have cL := fun w h => largeProps_any L a cap w h
  rw [h1] at cL
  have cV := fun w => encode_any v w hn
  have cF := fun w h => few_any L a cap w h hcap (by omega)
  have cE := fun a' c' w h => encProps_any L a' c' w h hN
  have cDs := fun w => decode_any s 0 w (by omega)
  have cLs := fun w => decodeProps_any s 0 w (by omega)
  rw [hA] at cV
  have gv := fun w => refGood_any v w
  rw [show goodB v = false by cases hg : goodB v with | false => rfl | true => exact absurd hA (encV_some hg)] at gv
  clear hA
  have cV : ∀ w, Calls Try.prog 19 #[v.val] w fun e w' => e = .returned (.string ⟨#[]⟩) ∧ Below w.heap.size w w' := cV
  have hE2 := decL_enc (ba ([120] ++ encL L)) 1 L [] (by rw [data_ba, List.append_nil]; rfl) hB hN
  rw [show ((1 : Nat) : Int) = 1 from rfl] at hE2
  have hle2 := encL_le hB
  have cDL := fun w => decodeProps_any (ba ([120] ++ encL L)) 1 w (by rw [ba_len, List.length_append, List.length_singleton]; omega)
  rw [hE2, ← ba_len (encL L)] at cDL
  have hadd2 : ∀ W, (Op.stringOp .add ⟨#[120]⟩ (ba (encL L))).run Try.prog W = .ok (.string (ba ([120] ++ encL L))) W := fun W => run_add_ba [120] (encL L) (by rw [List.length_singleton]; omega) W
  rw [show encR L = (ba (encL L), 0) by unfold encR; rw [if_pos hB]] at cE
  have cKL := fun aX cX w h h' => keepProps_any L aX a cX cap w h h' (by omega)
  clear hE2 hle2 hB
  generalize ba ([120] ++ encL L) = U1 at *
  generalize ba (encL L) = U at *
  simp only at cDL cE
  obtain ⟨_, _, hc3, _, hc5, hc6⟩ := decV_in s 0 hC
  have hct := decV_took s 0 (by exact hC)
  rw [show ((0 : Nat) : Int) = 0 from rfl, List.drop_zero] at hct
  have cX := fun w => encode_any (decV s 0).1 w ⟨hc5, hc6⟩
  have hcut : ∀ W : World, (Instr.slice 9 (.string s) none (some (.int .i64 ((decV s 0).2.1 : Int))) none).run Try.prog W = .ok (.string (ba (encV (decV s 0).1))) W := by
    intro W
    rw [hct, ← cut_first]
    have := run_slice_string_h (P := Try.prog) (w := W) (t := 9) (s := s) Try.underlying9 .i64 ((decV s 0).2.1 : Int) (by omega) (by rw [show (0 : Int).toNat = 0 from rfl] at hc3; omega)
    simpa using this
  clear hct hc3 hc5 hc6
  generalize decV s 0 = d at *
  obtain ⟨⟨xk, xn, xs⟩, xz, xok⟩ := d
  simp only at hC
  subst hC
  simp only [gotW] at *
  generalize ba (encV ⟨xk, xn, xs⟩) = X at *
  rw [decL_no s 0 hD] at cLs
  clear hD
  clear hN hn h0 h1 hcap h60
  have hsl := hsl.kept (below_alloc1 w (.cells #[.int .i64 v.k, .int .i64 v.n, .string v.s] 23))
  obtain ⟨p0, p1, p2⟩ := B3.new w v 23 rfl
  have hR := below_alloc1 w (.cells #[.int .i64 v.k, .int .i64 v.n, .string v.s] 23)
  have y1 : w.heap.size < (w.alloc (.cells #[.int .i64 v.k, .int .i64 v.n, .string v.s] 23)).heap.size := by simp
  obtain ⟨ak, an, sa⟩ := v
  simp only [V.val] at *
  go_enter Try.func7, Try.ntmps7
  go_wp2_with fail
  refine (lv _).mono ?_
  rintro e w1 ⟨rfl, hb1⟩
  have p0 := (hb1.cell (p := ⟨w.heap.size, 0, none⟩) y1).trans p0
  have p1 := (hb1.cell (p := ⟨w.heap.size, 1, none⟩) y1).trans p1
  have p2 := (hb1.cell (p := ⟨w.heap.size, 2, none⟩) y1).trans p2
  have y1 : w.heap.size < w1.heap.size := by have := hb1.size; omega
  have hR := below2 hR hb1
  have hsl := hsl.kept hb1
  clear hb1
  go_wp2_with fail
  refine (cL _ hsl).mono ?_
  rintro e w2 ⟨rfl, hb2⟩
  have p0 := (hb2.cell (p := ⟨w.heap.size, 0, none⟩) y1).trans p0
  have p1 := (hb2.cell (p := ⟨w.heap.size, 1, none⟩) y1).trans p1
  have p2 := (hb2.cell (p := ⟨w.heap.size, 2, none⟩) y1).trans p2
  have y1 : w.heap.size < w2.heap.size := by have := hb2.size; omega
  have hR := below2 hR hb2
  have hsl := hsl.kept hb2
  clear hb2
  go_wp2_with fail
  refine (cV _).mono ?_
  rintro e w3 ⟨rfl, hb3⟩
  have p0 := (hb3.cell (p := ⟨w.heap.size, 0, none⟩) y1).trans p0
  have p1 := (hb3.cell (p := ⟨w.heap.size, 1, none⟩) y1).trans p1
  have p2 := (hb3.cell (p := ⟨w.heap.size, 2, none⟩) y1).trans p2
  have y1 : w.heap.size < w3.heap.size := by have := hb3.size; omega
  have hR := below2 hR hb3
  have hsl := hsl.kept hb3
  clear hb3
  go_wp2_with fail
  refine (gv _).mono ?_
  rintro e w4 ⟨rfl, hb4⟩
  have p0 := (hb4.cell (p := ⟨w.heap.size, 0, none⟩) y1).trans p0
  have p1 := (hb4.cell (p := ⟨w.heap.size, 1, none⟩) y1).trans p1
  have p2 := (hb4.cell (p := ⟨w.heap.size, 2, none⟩) y1).trans p2
  have y1 : w.heap.size < w4.heap.size := by have := hb4.size; omega
  have hR := below2 hR hb4
  have hsl := hsl.kept hb4
  clear hb4
  go_wp2_with fail
  refine (cF _ hsl).mono ?_
  rintro e w5 ⟨aF, cFc, rfl, slF, hb5⟩
  have p0 := (hb5.cell (p := ⟨w.heap.size, 0, none⟩) y1).trans p0
  have p1 := (hb5.cell (p := ⟨w.heap.size, 1, none⟩) y1).trans p1
  have p2 := (hb5.cell (p := ⟨w.heap.size, 2, none⟩) y1).trans p2
  have y1 : w.heap.size < w5.heap.size := by have := hb5.size; omega
  have hR := below2 hR hb5
  have hsl := hsl.kept hb5
  clear hb5
  go_wp2_with fail
  refine (cE aF cFc _ slF).mono ?_
  rintro e w6 ⟨rfl, hb6⟩
  have p0 := (hb6.cell (p := ⟨w.heap.size, 0, none⟩) y1).trans p0
  have p1 := (hb6.cell (p := ⟨w.heap.size, 1, none⟩) y1).trans p1
  have p2 := (hb6.cell (p := ⟨w.heap.size, 2, none⟩) y1).trans p2
  have y1 : w.heap.size < w6.heap.size := by have := hb6.size; omega
  have hR := below2 hR hb6
  have hsl := hsl.kept hb6
  clear hb6
  go_wp2_with fail
  refine (cDL _).mono ?_
  rintro e w7 ⟨aX, cX', rfl, slX, hb7⟩
  have p0 := (hb7.cell (p := ⟨w.heap.size, 0, none⟩) y1).trans p0
  have p1 := (hb7.cell (p := ⟨w.heap.size, 1, none⟩) y1).trans p1
  have p2 := (hb7.cell (p := ⟨w.heap.size, 2, none⟩) y1).trans p2
  have y1 : w.heap.size < w7.heap.size := by have := hb7.size; omega
  have hR := below2 hR hb7
  have hsl := hsl.kept hb7
  clear hb7
  go_wp2_with fail
  refine (cKL aX cX' _ slX hsl).mono ?_
  rintro e w8 ⟨rfl, hb8⟩
  have p0 := (hb8.cell (p := ⟨w.heap.size, 0, none⟩) y1).trans p0
  have p1 := (hb8.cell (p := ⟨w.heap.size, 1, none⟩) y1).trans p1
  have p2 := (hb8.cell (p := ⟨w.heap.size, 2, none⟩) y1).trans p2
  have y1 : w.heap.size < w8.heap.size := by have := hb8.size; omega
  have hR := below2 hR hb8
  have hsl := hsl.kept hb8
  clear hb8
  go_wp2_with fail
  refine (cDs _).mono ?_
  rintro e w9 ⟨rfl, hb9⟩
  have p0 := (hb9.cell (p := ⟨w.heap.size, 0, none⟩) y1).trans p0
  have p1 := (hb9.cell (p := ⟨w.heap.size, 1, none⟩) y1).trans p1
  have p2 := (hb9.cell (p := ⟨w.heap.size, 2, none⟩) y1).trans p2
  have y1 : w.heap.size < w9.heap.size := by have := hb9.size; omega
  have hR := below2 hR hb9
  have hsl := hsl.kept hb9
  clear hb9
  obtain ⟨W, hW⟩ : ∃ W, W = w9.alloc (.cells #[.int .i64 xk, .int .i64 xn, .string xs] 23) := ⟨_, rfl⟩
  have hR : Below w.heap.size w W := by rw [hW]; exact below2 hR (below_alloc1 w9 _)
  obtain ⟨x0, x1, x2⟩ : B3 W w9.heap.size ⟨xk, xn, xs⟩ := by rw [hW]; exact B3.new w9 ⟨xk, xn, xs⟩ _ rfl
  simp only at x0 x1 x2
  have y2 : w9.heap.size < W.heap.size := by rw [hW]; simp
  clear p0 p1 p2 y1 hsl
  go_wp2_with fail
  rw [← hW]
  clear hW
  go_region_held3 (fun W => W.cell? ⟨w9.heap.size, 0, none⟩ = some (.int .i64 xk) ∧ W.cell? ⟨w9.heap.size, 1, none⟩ = some (.int .i64 xn) ∧ W.cell? ⟨w9.heap.size, 2, none⟩ = some (.string xs))
    (first | exact ⟨(hB.cell (p := ⟨w9.heap.size, 0, none⟩) y2).trans x0, (hB.cell (p := ⟨w9.heap.size, 1, none⟩) y2).trans x1, (hB.cell (p := ⟨w9.heap.size, 2, none⟩) y2).trans x2⟩ | go_keep)
    ((go_at_call 19; refine (cX _).mono ?_; rintro e wA ⟨rfl, hbA⟩; have hB := drew_below hbA))
  have hR := below2 hR hB
  clear hB x0 x1 x2 y2
  go_wp2_with fail
  refine (cLs _).mono ?_
  rintro e w50 ⟨aK, cK, rfl, slK, hb50⟩
  have hR := below2 hR hb50
  clear hb50
  go_wp2_with fail
  refine (vwakes_any _).mono ?_
  rintro e w99 ⟨rfl, hb99⟩
  go_wp2_with fail
  go_ret
  exact ⟨rfl, below2 hR hb99⟩

set_option maxHeartbeats 4000000 in
set_option maxRecDepth 100000 in
theorem back_w7 (v : V) (L : List Pr) (a : Option Addr) (cap : Nat) (s : ByteArray) (w : World) (hsl : Sl w a L) (hcap : a = none → cap = 0) (hN : ∀ p ∈ L, -9223372036854775808 ≤ p.v.n ∧ p.v.n ≤ 9223372036854775807) (hn : -9223372036854775808 ≤ v.n ∧ v.n ≤ 9223372036854775807) (h0 : ¬ 5000 < v.s.size) (h1 : largeL L = false) (h2 : ¬ (100000 : Int) < (s.size : Int)) (hA : encV v = []) (hB : propsB L = true) (hC : (decV s 0).2.2 = true) (hD : (decL s 0).2.2 = true) :
    Calls Try.prog 7 #[v.val, .slice a L.length cap, .string s] w fun e w' => e = .returned (.bool true) ∧ Below w.heap.size w w' := by
  have h60 := (largeL_no h1).1
  have lv := fun w => largeValue_any v w _ (decide_eq_false h0)
  have cL := fun w h => largeProps_any L a cap w h
  rw [h1] at cL
  have cV := fun w => encode_any v w hn
  have cF := fun w h => few_any L a cap w h hcap (by omega)
  have cE := fun a' c' w h => encProps_any L a' c' w h hN
  have cDs := fun w => decode_any s 0 w (by omega)
  have cLs := fun w => decodeProps_any s 0 w (by omega)
  rw [hA] at cV
  have gv := fun w => refGood_any v w
  rw [show goodB v = false by cases hg : goodB v with | false => rfl | true => exact absurd hA (encV_some hg)] at gv
  clear hA
  have cV : ∀ w, Calls Try.prog 19 #[v.val] w fun e w' => e = .returned (.string ⟨#[]⟩) ∧ Below w.heap.size w w' := cV
  have hE2 := decL_enc (ba ([120] ++ encL L)) 1 L [] (by rw [data_ba, List.append_nil]; rfl) hB hN
  rw [show ((1 : Nat) : Int) = 1 from rfl] at hE2
  have hle2 := encL_le hB
  have cDL := fun w => decodeProps_any (ba ([120] ++ encL L)) 1 w (by rw [ba_len, List.length_append, List.length_singleton]; omega)
  rw [hE2, ← ba_len (encL L)] at cDL
  have hadd2 : ∀ W, (Op.stringOp .add ⟨#[120]⟩ (ba (encL L))).run Try.prog W = .ok (.string (ba ([120] ++ encL L))) W := fun W => run_add_ba [120] (encL L) (by rw [List.length_singleton]; omega) W
  rw [show encR L = (ba (encL L), 0) by unfold encR; rw [if_pos hB]] at cE
  have cKL := fun aX cX w h h' => keepProps_any L aX a cX cap w h h' (by omega)
  clear hE2 hle2 hB
  generalize ba ([120] ++ encL L) = U1 at *
  generalize ba (encL L) = U at *
  simp only at cDL cE
  obtain ⟨_, _, hc3, _, hc5, hc6⟩ := decV_in s 0 hC
  have hct := decV_took s 0 (by exact hC)
  rw [show ((0 : Nat) : Int) = 0 from rfl, List.drop_zero] at hct
  have cX := fun w => encode_any (decV s 0).1 w ⟨hc5, hc6⟩
  have hcut : ∀ W : World, (Instr.slice 9 (.string s) none (some (.int .i64 ((decV s 0).2.1 : Int))) none).run Try.prog W = .ok (.string (ba (encV (decV s 0).1))) W := by
    intro W
    rw [hct, ← cut_first]
    have := run_slice_string_h (P := Try.prog) (w := W) (t := 9) (s := s) Try.underlying9 .i64 ((decV s 0).2.1 : Int) (by omega) (by rw [show (0 : Int).toNat = 0 from rfl] at hc3; omega)
    simpa using this
  clear hct hc3 hc5 hc6
  generalize decV s 0 = d at *
  obtain ⟨⟨xk, xn, xs⟩, xz, xok⟩ := d
  simp only at hC
  subst hC
  simp only [gotW] at *
  generalize ba (encV ⟨xk, xn, xs⟩) = X at *
  obtain ⟨hd1, hd2, hd3, hd4⟩ := decL_took s 0 (by exact hD)
  rw [show ((0 : Nat) : Int) = 0 from rfl] at hd1 hd2 hd3 hd4
  rw [List.drop_zero] at hd2
  have cEK := fun a' c' w h => encProps_any (decL s 0).1 a' c' w h (fun p hp => ⟨(hd4 p hp).c, (hd4 p hp).d⟩)
  rw [show encR (decL s 0).1 = (ba (encL (decL s 0).1), 0) by unfold encR; rw [if_pos hd1]] at cEK
  have hcut2 : ∀ W : World, (Instr.slice 9 (.string s) none (some (.int .i64 ((decL s 0).2.1 : Int))) none).run Try.prog W = .ok (.string (ba (encL (decL s 0).1))) W := by
    intro W
    rw [hd2, ← cut_first]
    have := run_slice_string_h (P := Try.prog) (w := W) (t := 9) (s := s) Try.underlying9 .i64 ((decL s 0).2.1 : Int) (by omega) (by omega)
    simpa using this
  clear hd1 hd2 hd3 hd4
  generalize decL s 0 = k at *
  obtain ⟨Kl, kz, kok⟩ := k
  simp only at hD
  subst hD
  simp only at *
  generalize ba (encL Kl) = Y at *
  clear hN hn h0 h1 hcap h60
  have hsl := hsl.kept (below_alloc1 w (.cells #[.int .i64 v.k, .int .i64 v.n, .string v.s] 23))
  obtain ⟨p0, p1, p2⟩ := B3.new w v 23 rfl
  have hR := below_alloc1 w (.cells #[.int .i64 v.k, .int .i64 v.n, .string v.s] 23)
  have y1 : w.heap.size < (w.alloc (.cells #[.int .i64 v.k, .int .i64 v.n, .string v.s] 23)).heap.size := by simp
  obtain ⟨ak, an, sa⟩ := v
  simp only [V.val] at *
  go_enter Try.func7, Try.ntmps7
  go_wp2_with fail
  refine (lv _).mono ?_
  rintro e w1 ⟨rfl, hb1⟩
  have p0 := (hb1.cell (p := ⟨w.heap.size, 0, none⟩) y1).trans p0
  have p1 := (hb1.cell (p := ⟨w.heap.size, 1, none⟩) y1).trans p1
  have p2 := (hb1.cell (p := ⟨w.heap.size, 2, none⟩) y1).trans p2
  have y1 : w.heap.size < w1.heap.size := by have := hb1.size; omega
  have hR := below2 hR hb1
  have hsl := hsl.kept hb1
  clear hb1
  go_wp2_with fail
  refine (cL _ hsl).mono ?_
  rintro e w2 ⟨rfl, hb2⟩
  have p0 := (hb2.cell (p := ⟨w.heap.size, 0, none⟩) y1).trans p0
  have p1 := (hb2.cell (p := ⟨w.heap.size, 1, none⟩) y1).trans p1
  have p2 := (hb2.cell (p := ⟨w.heap.size, 2, none⟩) y1).trans p2
  have y1 : w.heap.size < w2.heap.size := by have := hb2.size; omega
  have hR := below2 hR hb2
  have hsl := hsl.kept hb2
  clear hb2
  go_wp2_with fail
  refine (cV _).mono ?_
  rintro e w3 ⟨rfl, hb3⟩
  have p0 := (hb3.cell (p := ⟨w.heap.size, 0, none⟩) y1).trans p0
  have p1 := (hb3.cell (p := ⟨w.heap.size, 1, none⟩) y1).trans p1
  have p2 := (hb3.cell (p := ⟨w.heap.size, 2, none⟩) y1).trans p2
  have y1 : w.heap.size < w3.heap.size := by have := hb3.size; omega
  have hR := below2 hR hb3
  have hsl := hsl.kept hb3
  clear hb3
  go_wp2_with fail
  refine (gv _).mono ?_
  rintro e w4 ⟨rfl, hb4⟩
  have p0 := (hb4.cell (p := ⟨w.heap.size, 0, none⟩) y1).trans p0
  have p1 := (hb4.cell (p := ⟨w.heap.size, 1, none⟩) y1).trans p1
  have p2 := (hb4.cell (p := ⟨w.heap.size, 2, none⟩) y1).trans p2
  have y1 : w.heap.size < w4.heap.size := by have := hb4.size; omega
  have hR := below2 hR hb4
  have hsl := hsl.kept hb4
  clear hb4
  go_wp2_with fail
  refine (cF _ hsl).mono ?_
  rintro e w5 ⟨aF, cFc, rfl, slF, hb5⟩
  have p0 := (hb5.cell (p := ⟨w.heap.size, 0, none⟩) y1).trans p0
  have p1 := (hb5.cell (p := ⟨w.heap.size, 1, none⟩) y1).trans p1
  have p2 := (hb5.cell (p := ⟨w.heap.size, 2, none⟩) y1).trans p2
  have y1 : w.heap.size < w5.heap.size := by have := hb5.size; omega
  have hR := below2 hR hb5
  have hsl := hsl.kept hb5
  clear hb5
  go_wp2_with fail
  refine (cE aF cFc _ slF).mono ?_
  rintro e w6 ⟨rfl, hb6⟩
  have p0 := (hb6.cell (p := ⟨w.heap.size, 0, none⟩) y1).trans p0
  have p1 := (hb6.cell (p := ⟨w.heap.size, 1, none⟩) y1).trans p1
  have p2 := (hb6.cell (p := ⟨w.heap.size, 2, none⟩) y1).trans p2
  have y1 : w.heap.size < w6.heap.size := by have := hb6.size; omega
  have hR := below2 hR hb6
  have hsl := hsl.kept hb6
  clear hb6
  go_wp2_with fail
  refine (cDL _).mono ?_
  rintro e w7 ⟨aX, cX', rfl, slX, hb7⟩
  have p0 := (hb7.cell (p := ⟨w.heap.size, 0, none⟩) y1).trans p0
  have p1 := (hb7.cell (p := ⟨w.heap.size, 1, none⟩) y1).trans p1
  have p2 := (hb7.cell (p := ⟨w.heap.size, 2, none⟩) y1).trans p2
  have y1 : w.heap.size < w7.heap.size := by have := hb7.size; omega
  have hR := below2 hR hb7
  have hsl := hsl.kept hb7
  clear hb7
  go_wp2_with fail
  refine (cKL aX cX' _ slX hsl).mono ?_
  rintro e w8 ⟨rfl, hb8⟩
  have p0 := (hb8.cell (p := ⟨w.heap.size, 0, none⟩) y1).trans p0
  have p1 := (hb8.cell (p := ⟨w.heap.size, 1, none⟩) y1).trans p1
  have p2 := (hb8.cell (p := ⟨w.heap.size, 2, none⟩) y1).trans p2
  have y1 : w.heap.size < w8.heap.size := by have := hb8.size; omega
  have hR := below2 hR hb8
  have hsl := hsl.kept hb8
  clear hb8
  go_wp2_with fail
  refine (cDs _).mono ?_
  rintro e w9 ⟨rfl, hb9⟩
  have p0 := (hb9.cell (p := ⟨w.heap.size, 0, none⟩) y1).trans p0
  have p1 := (hb9.cell (p := ⟨w.heap.size, 1, none⟩) y1).trans p1
  have p2 := (hb9.cell (p := ⟨w.heap.size, 2, none⟩) y1).trans p2
  have y1 : w.heap.size < w9.heap.size := by have := hb9.size; omega
  have hR := below2 hR hb9
  have hsl := hsl.kept hb9
  clear hb9
  obtain ⟨W, hW⟩ : ∃ W, W = w9.alloc (.cells #[.int .i64 xk, .int .i64 xn, .string xs] 23) := ⟨_, rfl⟩
  have hR : Below w.heap.size w W := by rw [hW]; exact below2 hR (below_alloc1 w9 _)
  obtain ⟨x0, x1, x2⟩ : B3 W w9.heap.size ⟨xk, xn, xs⟩ := by rw [hW]; exact B3.new w9 ⟨xk, xn, xs⟩ _ rfl
  simp only at x0 x1 x2
  have y2 : w9.heap.size < W.heap.size := by rw [hW]; simp
  clear p0 p1 p2 y1 hsl
  go_wp2_with fail
  rw [← hW]
  clear hW
  go_region_held3 (fun W => W.cell? ⟨w9.heap.size, 0, none⟩ = some (.int .i64 xk) ∧ W.cell? ⟨w9.heap.size, 1, none⟩ = some (.int .i64 xn) ∧ W.cell? ⟨w9.heap.size, 2, none⟩ = some (.string xs))
    (first | exact ⟨(hB.cell (p := ⟨w9.heap.size, 0, none⟩) y2).trans x0, (hB.cell (p := ⟨w9.heap.size, 1, none⟩) y2).trans x1, (hB.cell (p := ⟨w9.heap.size, 2, none⟩) y2).trans x2⟩ | go_keep)
    ((go_at_call 19; refine (cX _).mono ?_; rintro e wA ⟨rfl, hbA⟩; have hB := drew_below hbA))
  have hR := below2 hR hB
  clear hB x0 x1 x2 y2
  go_wp2_with fail
  refine (cLs _).mono ?_
  rintro e w50 ⟨aK, cK, rfl, slK, hb50⟩
  have hR := below2 hR hb50
  clear hb50
  go_wp2_with fail
  refine (cEK aK cK _ slK).mono ?_
  rintro e w51 ⟨rfl, hb51⟩
  have hR := below2 hR hb51
  clear hb51
  go_wp2_with fail
  refine (vwakes_any _).mono ?_
  rintro e w99 ⟨rfl, hb99⟩
  go_wp2_with fail
  go_ret
  exact ⟨rfl, below2 hR hb99⟩

end Go.Proofs.Ytndbhalkhejgjaa
end

section
namespace Go.Proofs.Ytndbhalkhejgjaa
open Go.RowKit
attribute [local go_sem ↓] Go.wp_at_zero Go.wp_at_succ

set_option maxHeartbeats 4000000 in
set_option maxRecDepth 100000 in
theorem back_w8 (v : V) (L : List Pr) (a : Option Addr) (cap : Nat) (s : ByteArray) (w : World) (hsl : Sl w a L) (hcap : a = none → cap = 0) (hN : ∀ p ∈ L, -9223372036854775808 ≤ p.v.n ∧ p.v.n ≤ 9223372036854775807) (hn : -9223372036854775808 ≤ v.n ∧ v.n ≤ 9223372036854775807) (h0 : ¬ 5000 < v.s.size) (h1 : largeL L = false) (h2 : ¬ (100000 : Int) < (s.size : Int)) (hA : encV v ≠ []) (hB : propsB L = false) (hC : (decV s 0).2.2 = false) (hD : (decL s 0).2.2 = false) :
    Calls Try.prog 7 #[v.val, .slice a L.length cap, .string s] w fun e w' => e = .returned (.bool true) ∧ Below w.heap.size w w' := by
  have h60 := (largeL_no h1).1
  have lv := fun w => largeValue_any v w _ (decide_eq_false h0)
  have cL := fun w h => largeProps_any L a cap w h
  rw [h1] at cL
  have cV := fun w => encode_any v w hn
  have cF := fun w h => few_any L a cap w h hcap (by omega)
  have cE := fun a' c' w h => encProps_any L a' c' w h hN
  have cDs := fun w => decode_any s 0 w (by omega)
  have cLs := fun w => decodeProps_any s 0 w (by omega)
  have hE := decV_enc (ba (encV v ++ [120])) 0 v [120] (by rw [List.drop_zero, data_ba]) hA hn
  rw [show ((0 : Nat) : Int) = 0 from rfl] at hE
  have hle := encV_le v
  have cDv := fun w => decode_any (ba (encV v ++ [120])) 0 w (by rw [ba_len, List.length_append, List.length_singleton]; omega)
  rw [hE, ← ba_len (encV v)] at cDv
  simp only [gotW] at cDv
  have hadd : ∀ W, (Op.stringOp .add (ba (encV v)) ⟨#[120]⟩).run Try.prog W = .ok (.string (ba (encV v ++ [120]))) W := fun W => run_add_ba (encV v) [120] (by rw [List.length_singleton]; omega) W
  have hT := list_some (ba (encV v)) (by rw [ba_len]; exact fun h => hA (List.eq_nil_of_length_eq_zero h))
  have cKv := fun w => keepValue_any v v w
  rw [eqV_refl] at cKv
  clear hE hle hA
  generalize ba (encV v ++ [120]) = T1 at *
  generalize ba (encV v) = T at *
  rw [show encR L = (⟨#[]⟩, 142) by unfold encR; rw [hB]; rfl] at cE
  clear hB
  simp only at cE
  rw [decV_no s 0 hC] at cDs
  clear hC
  simp only [gotW, noV] at cDs
  rw [decL_no s 0 hD] at cLs
  clear hD
  clear hN hn h0 h1 hcap h60
  have hsl := hsl.kept (below_alloc1 w (.cells #[.int .i64 v.k, .int .i64 v.n, .string v.s] 23))
  obtain ⟨p0, p1, p2⟩ := B3.new w v 23 rfl
  have hR := below_alloc1 w (.cells #[.int .i64 v.k, .int .i64 v.n, .string v.s] 23)
  have y1 : w.heap.size < (w.alloc (.cells #[.int .i64 v.k, .int .i64 v.n, .string v.s] 23)).heap.size := by simp
  obtain ⟨ak, an, sa⟩ := v
  simp only [V.val] at *
  go_enter Try.func7, Try.ntmps7
  go_wp2_with fail
  refine (lv _).mono ?_
  rintro e w1 ⟨rfl, hb1⟩
  have p0 := (hb1.cell (p := ⟨w.heap.size, 0, none⟩) y1).trans p0
  have p1 := (hb1.cell (p := ⟨w.heap.size, 1, none⟩) y1).trans p1
  have p2 := (hb1.cell (p := ⟨w.heap.size, 2, none⟩) y1).trans p2
  have y1 : w.heap.size < w1.heap.size := by have := hb1.size; omega
  have hR := below2 hR hb1
  have hsl := hsl.kept hb1
  clear hb1
  go_wp2_with fail
  refine (cL _ hsl).mono ?_
  rintro e w2 ⟨rfl, hb2⟩
  have p0 := (hb2.cell (p := ⟨w.heap.size, 0, none⟩) y1).trans p0
  have p1 := (hb2.cell (p := ⟨w.heap.size, 1, none⟩) y1).trans p1
  have p2 := (hb2.cell (p := ⟨w.heap.size, 2, none⟩) y1).trans p2
  have y1 : w.heap.size < w2.heap.size := by have := hb2.size; omega
  have hR := below2 hR hb2
  have hsl := hsl.kept hb2
  clear hb2
  go_wp2_with fail
  refine (cV _).mono ?_
  rintro e w3 ⟨rfl, hb3⟩
  have p0 := (hb3.cell (p := ⟨w.heap.size, 0, none⟩) y1).trans p0
  have p1 := (hb3.cell (p := ⟨w.heap.size, 1, none⟩) y1).trans p1
  have p2 := (hb3.cell (p := ⟨w.heap.size, 2, none⟩) y1).trans p2
  have y1 : w.heap.size < w3.heap.size := by have := hb3.size; omega
  have hR := below2 hR hb3
  have hsl := hsl.kept hb3
  clear hb3
  go_wp2_with fail
  refine (cDv _).mono ?_
  rintro e w4 ⟨rfl, hb4⟩
  have p0 := (hb4.cell (p := ⟨w.heap.size, 0, none⟩) y1).trans p0
  have p1 := (hb4.cell (p := ⟨w.heap.size, 1, none⟩) y1).trans p1
  have p2 := (hb4.cell (p := ⟨w.heap.size, 2, none⟩) y1).trans p2
  have y1 : w.heap.size < w4.heap.size := by have := hb4.size; omega
  have hR := below2 hR hb4
  have hsl := hsl.kept hb4
  clear hb4
  go_wp2_with fail
  refine (cKv _).mono ?_
  rintro e w5 ⟨rfl, hb5⟩
  have hb5 := below2 (below_alloc1 w4 _) hb5
  have p0 := (hb5.cell (p := ⟨w.heap.size, 0, none⟩) y1).trans p0
  have p1 := (hb5.cell (p := ⟨w.heap.size, 1, none⟩) y1).trans p1
  have p2 := (hb5.cell (p := ⟨w.heap.size, 2, none⟩) y1).trans p2
  have y1 : w.heap.size < w5.heap.size := by have := hb5.size; omega
  have hR := below2 hR hb5
  have hsl := hsl.kept hb5
  clear hb5
  go_wp2_with fail
  refine (cF _ hsl).mono ?_
  rintro e w6 ⟨aF, cFc, rfl, slF, hb6⟩
  have p0 := (hb6.cell (p := ⟨w.heap.size, 0, none⟩) y1).trans p0
  have p1 := (hb6.cell (p := ⟨w.heap.size, 1, none⟩) y1).trans p1
  have p2 := (hb6.cell (p := ⟨w.heap.size, 2, none⟩) y1).trans p2
  have y1 : w.heap.size < w6.heap.size := by have := hb6.size; omega
  have hR := below2 hR hb6
  have hsl := hsl.kept hb6
  clear hb6
  go_wp2_with fail
  refine (cE aF cFc _ slF).mono ?_
  rintro e w7 ⟨rfl, hb7⟩
  have p0 := (hb7.cell (p := ⟨w.heap.size, 0, none⟩) y1).trans p0
  have p1 := (hb7.cell (p := ⟨w.heap.size, 1, none⟩) y1).trans p1
  have p2 := (hb7.cell (p := ⟨w.heap.size, 2, none⟩) y1).trans p2
  have y1 : w.heap.size < w7.heap.size := by have := hb7.size; omega
  have hR := below2 hR hb7
  have hsl := hsl.kept hb7
  clear hb7
  go_wp2_with fail
  refine (cDs _).mono ?_
  rintro e w8 ⟨rfl, hb8⟩
  have p0 := (hb8.cell (p := ⟨w.heap.size, 0, none⟩) y1).trans p0
  have p1 := (hb8.cell (p := ⟨w.heap.size, 1, none⟩) y1).trans p1
  have p2 := (hb8.cell (p := ⟨w.heap.size, 2, none⟩) y1).trans p2
  have y1 : w.heap.size < w8.heap.size := by have := hb8.size; omega
  have hR := below2 hR hb8
  have hsl := hsl.kept hb8
  clear hb8
  obtain ⟨W, hW⟩ : ∃ W, W = w8.alloc (.cells #[.int .i64 0, .int .i64 0, .string ⟨#[]⟩] 23) := ⟨_, rfl⟩
  have hR : Below w.heap.size w W := by rw [hW]; exact below2 hR (below_alloc1 w8 _)
  clear p0 p1 p2 y1 hsl
  go_wp2_with fail
  rw [← hW]
  clear hW
  have hR : Below w.heap.size w W.drew := hR.drew
  refine wp_region_held (S := fun _ => True) (by kernel_rfl) ?_
  change wpAnyH _ _ _ _ _ _ _ _ (World.drew _)
  refine takeD 0 98 (v := .bool false) rfl rfl (by kernel_rfl) (by kernel_rfl) (by kernel_rfl) (fun _ _ _ h => h) (Or.inl ⟨by kernel_rfl, fun _ _ => by kernel_rfl⟩) trivial ?_
  simp only [List.setIfInBounds_toArray, List.set_cons_zero, List.set_cons_succ]
  refine takeD 1 99 (v := .bool false) rfl rfl (by kernel_rfl) (by kernel_rfl) (by kernel_rfl) (fun _ _ _ h => h) (Or.inl ⟨by kernel_rfl, fun _ _ => by kernel_rfl⟩) trivial ?_
  simp only [List.setIfInBounds_toArray, List.set_cons_zero, List.set_cons_succ]
  refine takeD 2 100 (v := undef) rfl rfl (by kernel_rfl) (by kernel_rfl) (by kernel_rfl) (fun _ _ _ h => h) (Or.inr ⟨by kernel_rfl, rfl⟩) trivial ?_
  simp only [List.setIfInBounds_toArray, List.set_cons_zero, List.set_cons_succ]
  refine takeD 3 101 (v := undef) rfl rfl (by kernel_rfl) (by kernel_rfl) (by kernel_rfl) (fun _ _ _ h => h) (Or.inr ⟨by kernel_rfl, rfl⟩) trivial ?_
  simp only [List.setIfInBounds_toArray, List.set_cons_zero, List.set_cons_succ]
  refine takeD 4 102 (v := undef) rfl rfl (by kernel_rfl) (by kernel_rfl) (by kernel_rfl) (fun _ _ _ h => h) (Or.inr ⟨by kernel_rfl, rfl⟩) trivial ?_
  simp only [List.setIfInBounds_toArray, List.set_cons_zero, List.set_cons_succ]
  refine takeD 5 103 (v := undef) rfl rfl (by kernel_rfl) (by kernel_rfl) (by kernel_rfl) (fun _ _ _ h => h) (Or.inr ⟨by kernel_rfl, rfl⟩) trivial ?_
  simp only [List.setIfInBounds_toArray, List.set_cons_zero, List.set_cons_succ]
  refine takeD 6 104 (v := undef) rfl rfl (by kernel_rfl) (by kernel_rfl) (by kernel_rfl) (fun _ _ _ h => h) (Or.inr ⟨by kernel_rfl, rfl⟩) trivial ?_
  simp only [List.setIfInBounds_toArray, List.set_cons_zero, List.set_cons_succ]
  refine takeD 7 105 (v := undef) rfl rfl (by kernel_rfl) (by kernel_rfl) (by kernel_rfl) (fun _ _ _ h => h) (Or.inr ⟨by kernel_rfl, rfl⟩) trivial ?_
  simp only [List.setIfInBounds_toArray, List.set_cons_zero, List.set_cons_succ]
  refine takeD 8 106 (v := .bool false) rfl rfl (by kernel_rfl) (by kernel_rfl) (by kernel_rfl) (fun _ _ _ h => h) (Or.inl ⟨by kernel_rfl, fun _ _ => by kernel_rfl⟩) trivial ?_
  simp only [List.setIfInBounds_toArray, List.set_cons_zero, List.set_cons_succ]
  refine wpAnyH_done (by kernel_rfl) ?_ _
  go_wp2_with fail
  refine (cLs _).mono ?_
  rintro e w50 ⟨aK, cK, rfl, slK, hb50⟩
  have hR := below2 hR hb50
  clear hb50
  go_wp2_with fail
  refine (vwakes_any _).mono ?_
  rintro e w99 ⟨rfl, hb99⟩
  go_wp2_with fail
  go_ret
  exact ⟨rfl, below2 hR hb99⟩

set_option maxHeartbeats 4000000 in
set_option maxRecDepth 100000 in
theorem back_w9 (v : V) (L : List Pr) (a : Option Addr) (cap : Nat) (s : ByteArray) (w : World) (hsl : Sl w a L) (hcap : a = none → cap = 0) (hN : ∀ p ∈ L, -9223372036854775808 ≤ p.v.n ∧ p.v.n ≤ 9223372036854775807) (hn : -9223372036854775808 ≤ v.n ∧ v.n ≤ 9223372036854775807) (h0 : ¬ 5000 < v.s.size) (h1 : largeL L = false) (h2 : ¬ (100000 : Int) < (s.size : Int)) (hA : encV v ≠ []) (hB : propsB L = false) (hC : (decV s 0).2.2 = false) (hD : (decL s 0).2.2 = true) :
    Calls Try.prog 7 #[v.val, .slice a L.length cap, .string s] w fun e w' => e = .returned (.bool true) ∧ Below w.heap.size w w' := by
  have h60 := (largeL_no h1).1
  have lv := fun w => largeValue_any v w _ (decide_eq_false h0)
  have cL := fun w h => largeProps_any L a cap w h
  rw [h1] at cL
  have cV := fun w => encode_any v w hn
  have cF := fun w h => few_any L a cap w h hcap (by omega)
  have cE := fun a' c' w h => encProps_any L a' c' w h hN
  have cDs := fun w => decode_any s 0 w (by omega)
  have cLs := fun w => decodeProps_any s 0 w (by omega)
  have hE := decV_enc (ba (encV v ++ [120])) 0 v [120] (by rw [List.drop_zero, data_ba]) hA hn
  rw [show ((0 : Nat) : Int) = 0 from rfl] at hE
  have hle := encV_le v
  have cDv := fun w => decode_any (ba (encV v ++ [120])) 0 w (by rw [ba_len, List.length_append, List.length_singleton]; omega)
  rw [hE, ← ba_len (encV v)] at cDv
  simp only [gotW] at cDv
  have hadd : ∀ W, (Op.stringOp .add (ba (encV v)) ⟨#[120]⟩).run Try.prog W = .ok (.string (ba (encV v ++ [120]))) W := fun W => run_add_ba (encV v) [120] (by rw [List.length_singleton]; omega) W
  have hT := list_some (ba (encV v)) (by rw [ba_len]; exact fun h => hA (List.eq_nil_of_length_eq_zero h))
  have cKv := fun w => keepValue_any v v w
  rw [eqV_refl] at cKv
  clear hE hle hA
  generalize ba (encV v ++ [120]) = T1 at *
  generalize ba (encV v) = T at *
  rw [show encR L = (⟨#[]⟩, 142) by unfold encR; rw [hB]; rfl] at cE
  clear hB
  simp only at cE
  rw [decV_no s 0 hC] at cDs
  clear hC
  simp only [gotW, noV] at cDs
  obtain ⟨hd1, hd2, hd3, hd4⟩ := decL_took s 0 (by exact hD)
  rw [show ((0 : Nat) : Int) = 0 from rfl] at hd1 hd2 hd3 hd4
  rw [List.drop_zero] at hd2
  have cEK := fun a' c' w h => encProps_any (decL s 0).1 a' c' w h (fun p hp => ⟨(hd4 p hp).c, (hd4 p hp).d⟩)
  rw [show encR (decL s 0).1 = (ba (encL (decL s 0).1), 0) by unfold encR; rw [if_pos hd1]] at cEK
  have hcut2 : ∀ W : World, (Instr.slice 9 (.string s) none (some (.int .i64 ((decL s 0).2.1 : Int))) none).run Try.prog W = .ok (.string (ba (encL (decL s 0).1))) W := by
    intro W
    rw [hd2, ← cut_first]
    have := run_slice_string_h (P := Try.prog) (w := W) (t := 9) (s := s) Try.underlying9 .i64 ((decL s 0).2.1 : Int) (by omega) (by omega)
    simpa using this
  clear hd1 hd2 hd3 hd4
  generalize decL s 0 = k at *
  obtain ⟨Kl, kz, kok⟩ := k
  simp only at hD
  subst hD
  simp only at *
  generalize ba (encL Kl) = Y at *
  clear hN hn h0 h1 hcap h60
  have hsl := hsl.kept (below_alloc1 w (.cells #[.int .i64 v.k, .int .i64 v.n, .string v.s] 23))
  obtain ⟨p0, p1, p2⟩ := B3.new w v 23 rfl
  have hR := below_alloc1 w (.cells #[.int .i64 v.k, .int .i64 v.n, .string v.s] 23)
  have y1 : w.heap.size < (w.alloc (.cells #[.int .i64 v.k, .int .i64 v.n, .string v.s] 23)).heap.size := by simp
  obtain ⟨ak, an, sa⟩ := v
  simp only [V.val] at *
  go_enter Try.func7, Try.ntmps7
  go_wp2_with fail
  refine (lv _).mono ?_
  rintro e w1 ⟨rfl, hb1⟩
  have p0 := (hb1.cell (p := ⟨w.heap.size, 0, none⟩) y1).trans p0
  have p1 := (hb1.cell (p := ⟨w.heap.size, 1, none⟩) y1).trans p1
  have p2 := (hb1.cell (p := ⟨w.heap.size, 2, none⟩) y1).trans p2
  have y1 : w.heap.size < w1.heap.size := by have := hb1.size; omega
  have hR := below2 hR hb1
  have hsl := hsl.kept hb1
  clear hb1
  go_wp2_with fail
  refine (cL _ hsl).mono ?_
  rintro e w2 ⟨rfl, hb2⟩
  have p0 := (hb2.cell (p := ⟨w.heap.size, 0, none⟩) y1).trans p0
  have p1 := (hb2.cell (p := ⟨w.heap.size, 1, none⟩) y1).trans p1
  have p2 := (hb2.cell (p := ⟨w.heap.size, 2, none⟩) y1).trans p2
  have y1 : w.heap.size < w2.heap.size := by have := hb2.size; omega
  have hR := below2 hR hb2
  have hsl := hsl.kept hb2
  clear hb2
  go_wp2_with fail
  refine (cV _).mono ?_
  rintro e w3 ⟨rfl, hb3⟩
  have p0 := (hb3.cell (p := ⟨w.heap.size, 0, none⟩) y1).trans p0
  have p1 := (hb3.cell (p := ⟨w.heap.size, 1, none⟩) y1).trans p1
  have p2 := (hb3.cell (p := ⟨w.heap.size, 2, none⟩) y1).trans p2
  have y1 : w.heap.size < w3.heap.size := by have := hb3.size; omega
  have hR := below2 hR hb3
  have hsl := hsl.kept hb3
  clear hb3
  go_wp2_with fail
  refine (cDv _).mono ?_
  rintro e w4 ⟨rfl, hb4⟩
  have p0 := (hb4.cell (p := ⟨w.heap.size, 0, none⟩) y1).trans p0
  have p1 := (hb4.cell (p := ⟨w.heap.size, 1, none⟩) y1).trans p1
  have p2 := (hb4.cell (p := ⟨w.heap.size, 2, none⟩) y1).trans p2
  have y1 : w.heap.size < w4.heap.size := by have := hb4.size; omega
  have hR := below2 hR hb4
  have hsl := hsl.kept hb4
  clear hb4
  go_wp2_with fail
  refine (cKv _).mono ?_
  rintro e w5 ⟨rfl, hb5⟩
  have hb5 := below2 (below_alloc1 w4 _) hb5
  have p0 := (hb5.cell (p := ⟨w.heap.size, 0, none⟩) y1).trans p0
  have p1 := (hb5.cell (p := ⟨w.heap.size, 1, none⟩) y1).trans p1
  have p2 := (hb5.cell (p := ⟨w.heap.size, 2, none⟩) y1).trans p2
  have y1 : w.heap.size < w5.heap.size := by have := hb5.size; omega
  have hR := below2 hR hb5
  have hsl := hsl.kept hb5
  clear hb5
  go_wp2_with fail
  refine (cF _ hsl).mono ?_
  rintro e w6 ⟨aF, cFc, rfl, slF, hb6⟩
  have p0 := (hb6.cell (p := ⟨w.heap.size, 0, none⟩) y1).trans p0
  have p1 := (hb6.cell (p := ⟨w.heap.size, 1, none⟩) y1).trans p1
  have p2 := (hb6.cell (p := ⟨w.heap.size, 2, none⟩) y1).trans p2
  have y1 : w.heap.size < w6.heap.size := by have := hb6.size; omega
  have hR := below2 hR hb6
  have hsl := hsl.kept hb6
  clear hb6
  go_wp2_with fail
  refine (cE aF cFc _ slF).mono ?_
  rintro e w7 ⟨rfl, hb7⟩
  have p0 := (hb7.cell (p := ⟨w.heap.size, 0, none⟩) y1).trans p0
  have p1 := (hb7.cell (p := ⟨w.heap.size, 1, none⟩) y1).trans p1
  have p2 := (hb7.cell (p := ⟨w.heap.size, 2, none⟩) y1).trans p2
  have y1 : w.heap.size < w7.heap.size := by have := hb7.size; omega
  have hR := below2 hR hb7
  have hsl := hsl.kept hb7
  clear hb7
  go_wp2_with fail
  refine (cDs _).mono ?_
  rintro e w8 ⟨rfl, hb8⟩
  have p0 := (hb8.cell (p := ⟨w.heap.size, 0, none⟩) y1).trans p0
  have p1 := (hb8.cell (p := ⟨w.heap.size, 1, none⟩) y1).trans p1
  have p2 := (hb8.cell (p := ⟨w.heap.size, 2, none⟩) y1).trans p2
  have y1 : w.heap.size < w8.heap.size := by have := hb8.size; omega
  have hR := below2 hR hb8
  have hsl := hsl.kept hb8
  clear hb8
  obtain ⟨W, hW⟩ : ∃ W, W = w8.alloc (.cells #[.int .i64 0, .int .i64 0, .string ⟨#[]⟩] 23) := ⟨_, rfl⟩
  have hR : Below w.heap.size w W := by rw [hW]; exact below2 hR (below_alloc1 w8 _)
  clear p0 p1 p2 y1 hsl
  go_wp2_with fail
  rw [← hW]
  clear hW
  have hR : Below w.heap.size w W.drew := hR.drew
  refine wp_region_held (S := fun _ => True) (by kernel_rfl) ?_
  change wpAnyH _ _ _ _ _ _ _ _ (World.drew _)
  refine takeD 0 98 (v := .bool false) rfl rfl (by kernel_rfl) (by kernel_rfl) (by kernel_rfl) (fun _ _ _ h => h) (Or.inl ⟨by kernel_rfl, fun _ _ => by kernel_rfl⟩) trivial ?_
  simp only [List.setIfInBounds_toArray, List.set_cons_zero, List.set_cons_succ]
  refine takeD 1 99 (v := .bool false) rfl rfl (by kernel_rfl) (by kernel_rfl) (by kernel_rfl) (fun _ _ _ h => h) (Or.inl ⟨by kernel_rfl, fun _ _ => by kernel_rfl⟩) trivial ?_
  simp only [List.setIfInBounds_toArray, List.set_cons_zero, List.set_cons_succ]
  refine takeD 2 100 (v := undef) rfl rfl (by kernel_rfl) (by kernel_rfl) (by kernel_rfl) (fun _ _ _ h => h) (Or.inr ⟨by kernel_rfl, rfl⟩) trivial ?_
  simp only [List.setIfInBounds_toArray, List.set_cons_zero, List.set_cons_succ]
  refine takeD 3 101 (v := undef) rfl rfl (by kernel_rfl) (by kernel_rfl) (by kernel_rfl) (fun _ _ _ h => h) (Or.inr ⟨by kernel_rfl, rfl⟩) trivial ?_
  simp only [List.setIfInBounds_toArray, List.set_cons_zero, List.set_cons_succ]
  refine takeD 4 102 (v := undef) rfl rfl (by kernel_rfl) (by kernel_rfl) (by kernel_rfl) (fun _ _ _ h => h) (Or.inr ⟨by kernel_rfl, rfl⟩) trivial ?_
  simp only [List.setIfInBounds_toArray, List.set_cons_zero, List.set_cons_succ]
  refine takeD 5 103 (v := undef) rfl rfl (by kernel_rfl) (by kernel_rfl) (by kernel_rfl) (fun _ _ _ h => h) (Or.inr ⟨by kernel_rfl, rfl⟩) trivial ?_
  simp only [List.setIfInBounds_toArray, List.set_cons_zero, List.set_cons_succ]
  refine takeD 6 104 (v := undef) rfl rfl (by kernel_rfl) (by kernel_rfl) (by kernel_rfl) (fun _ _ _ h => h) (Or.inr ⟨by kernel_rfl, rfl⟩) trivial ?_
  simp only [List.setIfInBounds_toArray, List.set_cons_zero, List.set_cons_succ]
  refine takeD 7 105 (v := undef) rfl rfl (by kernel_rfl) (by kernel_rfl) (by kernel_rfl) (fun _ _ _ h => h) (Or.inr ⟨by kernel_rfl, rfl⟩) trivial ?_
  simp only [List.setIfInBounds_toArray, List.set_cons_zero, List.set_cons_succ]
  refine takeD 8 106 (v := .bool false) rfl rfl (by kernel_rfl) (by kernel_rfl) (by kernel_rfl) (fun _ _ _ h => h) (Or.inl ⟨by kernel_rfl, fun _ _ => by kernel_rfl⟩) trivial ?_
  simp only [List.setIfInBounds_toArray, List.set_cons_zero, List.set_cons_succ]
  refine wpAnyH_done (by kernel_rfl) ?_ _
  go_wp2_with fail
  refine (cLs _).mono ?_
  rintro e w50 ⟨aK, cK, rfl, slK, hb50⟩
  have hR := below2 hR hb50
  clear hb50
  go_wp2_with fail
  refine (cEK aK cK _ slK).mono ?_
  rintro e w51 ⟨rfl, hb51⟩
  have hR := below2 hR hb51
  clear hb51
  go_wp2_with fail
  refine (vwakes_any _).mono ?_
  rintro e w99 ⟨rfl, hb99⟩
  go_wp2_with fail
  go_ret
  exact ⟨rfl, below2 hR hb99⟩

end Go.Proofs.Ytndbhalkhejgjaa
end

section
namespace Go.Proofs.Ytndbhalkhejgjaa
open Go.RowKit
attribute [local go_sem ↓] Go.wp_at_zero Go.wp_at_succ

set_option maxHeartbeats 4000000 in
set_option maxRecDepth 100000 in
theorem back_w10 (v : V) (L : List Pr) (a : Option Addr) (cap : Nat) (s : ByteArray) (w : World) (hsl : Sl w a L) (hcap : a = none → cap = 0) (hN : ∀ p ∈ L, -9223372036854775808 ≤ p.v.n ∧ p.v.n ≤ 9223372036854775807) (hn : -9223372036854775808 ≤ v.n ∧ v.n ≤ 9223372036854775807) (h0 : ¬ 5000 < v.s.size) (h1 : largeL L = false) (h2 : ¬ (100000 : Int) < (s.size : Int)) (hA : encV v ≠ []) (hB : propsB L = false) (hC : (decV s 0).2.2 = true) (hD : (decL s 0).2.2 = false) :
    Calls Try.prog 7 #[v.val, .slice a L.length cap, .string s] w fun e w' => e = .returned (.bool true) ∧ Below w.heap.size w w' := by
  have h60 := (largeL_no h1).1
  have lv := fun w => largeValue_any v w _ (decide_eq_false h0)
  have cL := fun w h => largeProps_any L a cap w h
  rw [h1] at cL
  have cV := fun w => encode_any v w hn
  have cF := fun w h => few_any L a cap w h hcap (by omega)
  have cE := fun a' c' w h => encProps_any L a' c' w h hN
  have cDs := fun w => decode_any s 0 w (by omega)
  have cLs := fun w => decodeProps_any s 0 w (by omega)
  have hE := decV_enc (ba (encV v ++ [120])) 0 v [120] (by rw [List.drop_zero, data_ba]) hA hn
  rw [show ((0 : Nat) : Int) = 0 from rfl] at hE
  have hle := encV_le v
  have cDv := fun w => decode_any (ba (encV v ++ [120])) 0 w (by rw [ba_len, List.length_append, List.length_singleton]; omega)
  rw [hE, ← ba_len (encV v)] at cDv
  simp only [gotW] at cDv
  have hadd : ∀ W, (Op.stringOp .add (ba (encV v)) ⟨#[120]⟩).run Try.prog W = .ok (.string (ba (encV v ++ [120]))) W := fun W => run_add_ba (encV v) [120] (by rw [List.length_singleton]; omega) W
  have hT := list_some (ba (encV v)) (by rw [ba_len]; exact fun h => hA (List.eq_nil_of_length_eq_zero h))
  have cKv := fun w => keepValue_any v v w
  rw [eqV_refl] at cKv
  clear hE hle hA
  generalize ba (encV v ++ [120]) = T1 at *
  generalize ba (encV v) = T at *
  rw [show encR L = (⟨#[]⟩, 142) by unfold encR; rw [hB]; rfl] at cE
  clear hB
  simp only at cE
  obtain ⟨_, _, hc3, _, hc5, hc6⟩ := decV_in s 0 hC
  have hct := decV_took s 0 (by exact hC)
  rw [show ((0 : Nat) : Int) = 0 from rfl, List.drop_zero] at hct
  have cX := fun w => encode_any (decV s 0).1 w ⟨hc5, hc6⟩
  have hcut : ∀ W : World, (Instr.slice 9 (.string s) none (some (.int .i64 ((decV s 0).2.1 : Int))) none).run Try.prog W = .ok (.string (ba (encV (decV s 0).1))) W := by
    intro W
    rw [hct, ← cut_first]
    have := run_slice_string_h (P := Try.prog) (w := W) (t := 9) (s := s) Try.underlying9 .i64 ((decV s 0).2.1 : Int) (by omega) (by rw [show (0 : Int).toNat = 0 from rfl] at hc3; omega)
    simpa using this
  clear hct hc3 hc5 hc6
  generalize decV s 0 = d at *
  obtain ⟨⟨xk, xn, xs⟩, xz, xok⟩ := d
  simp only at hC
  subst hC
  simp only [gotW] at *
  generalize ba (encV ⟨xk, xn, xs⟩) = X at *
  rw [decL_no s 0 hD] at cLs
  clear hD
  clear hN hn h0 h1 hcap h60
  have hsl := hsl.kept (below_alloc1 w (.cells #[.int .i64 v.k, .int .i64 v.n, .string v.s] 23))
  obtain ⟨p0, p1, p2⟩ := B3.new w v 23 rfl
  have hR := below_alloc1 w (.cells #[.int .i64 v.k, .int .i64 v.n, .string v.s] 23)
  have y1 : w.heap.size < (w.alloc (.cells #[.int .i64 v.k, .int .i64 v.n, .string v.s] 23)).heap.size := by simp
  obtain ⟨ak, an, sa⟩ := v
  simp only [V.val] at *
  go_enter Try.func7, Try.ntmps7
  go_wp2_with fail
  refine (lv _).mono ?_
  rintro e w1 ⟨rfl, hb1⟩
  have p0 := (hb1.cell (p := ⟨w.heap.size, 0, none⟩) y1).trans p0
  have p1 := (hb1.cell (p := ⟨w.heap.size, 1, none⟩) y1).trans p1
  have p2 := (hb1.cell (p := ⟨w.heap.size, 2, none⟩) y1).trans p2
  have y1 : w.heap.size < w1.heap.size := by have := hb1.size; omega
  have hR := below2 hR hb1
  have hsl := hsl.kept hb1
  clear hb1
  go_wp2_with fail
  refine (cL _ hsl).mono ?_
  rintro e w2 ⟨rfl, hb2⟩
  have p0 := (hb2.cell (p := ⟨w.heap.size, 0, none⟩) y1).trans p0
  have p1 := (hb2.cell (p := ⟨w.heap.size, 1, none⟩) y1).trans p1
  have p2 := (hb2.cell (p := ⟨w.heap.size, 2, none⟩) y1).trans p2
  have y1 : w.heap.size < w2.heap.size := by have := hb2.size; omega
  have hR := below2 hR hb2
  have hsl := hsl.kept hb2
  clear hb2
  go_wp2_with fail
  refine (cV _).mono ?_
  rintro e w3 ⟨rfl, hb3⟩
  have p0 := (hb3.cell (p := ⟨w.heap.size, 0, none⟩) y1).trans p0
  have p1 := (hb3.cell (p := ⟨w.heap.size, 1, none⟩) y1).trans p1
  have p2 := (hb3.cell (p := ⟨w.heap.size, 2, none⟩) y1).trans p2
  have y1 : w.heap.size < w3.heap.size := by have := hb3.size; omega
  have hR := below2 hR hb3
  have hsl := hsl.kept hb3
  clear hb3
  go_wp2_with fail
  refine (cDv _).mono ?_
  rintro e w4 ⟨rfl, hb4⟩
  have p0 := (hb4.cell (p := ⟨w.heap.size, 0, none⟩) y1).trans p0
  have p1 := (hb4.cell (p := ⟨w.heap.size, 1, none⟩) y1).trans p1
  have p2 := (hb4.cell (p := ⟨w.heap.size, 2, none⟩) y1).trans p2
  have y1 : w.heap.size < w4.heap.size := by have := hb4.size; omega
  have hR := below2 hR hb4
  have hsl := hsl.kept hb4
  clear hb4
  go_wp2_with fail
  refine (cKv _).mono ?_
  rintro e w5 ⟨rfl, hb5⟩
  have hb5 := below2 (below_alloc1 w4 _) hb5
  have p0 := (hb5.cell (p := ⟨w.heap.size, 0, none⟩) y1).trans p0
  have p1 := (hb5.cell (p := ⟨w.heap.size, 1, none⟩) y1).trans p1
  have p2 := (hb5.cell (p := ⟨w.heap.size, 2, none⟩) y1).trans p2
  have y1 : w.heap.size < w5.heap.size := by have := hb5.size; omega
  have hR := below2 hR hb5
  have hsl := hsl.kept hb5
  clear hb5
  go_wp2_with fail
  refine (cF _ hsl).mono ?_
  rintro e w6 ⟨aF, cFc, rfl, slF, hb6⟩
  have p0 := (hb6.cell (p := ⟨w.heap.size, 0, none⟩) y1).trans p0
  have p1 := (hb6.cell (p := ⟨w.heap.size, 1, none⟩) y1).trans p1
  have p2 := (hb6.cell (p := ⟨w.heap.size, 2, none⟩) y1).trans p2
  have y1 : w.heap.size < w6.heap.size := by have := hb6.size; omega
  have hR := below2 hR hb6
  have hsl := hsl.kept hb6
  clear hb6
  go_wp2_with fail
  refine (cE aF cFc _ slF).mono ?_
  rintro e w7 ⟨rfl, hb7⟩
  have p0 := (hb7.cell (p := ⟨w.heap.size, 0, none⟩) y1).trans p0
  have p1 := (hb7.cell (p := ⟨w.heap.size, 1, none⟩) y1).trans p1
  have p2 := (hb7.cell (p := ⟨w.heap.size, 2, none⟩) y1).trans p2
  have y1 : w.heap.size < w7.heap.size := by have := hb7.size; omega
  have hR := below2 hR hb7
  have hsl := hsl.kept hb7
  clear hb7
  go_wp2_with fail
  refine (cDs _).mono ?_
  rintro e w8 ⟨rfl, hb8⟩
  have p0 := (hb8.cell (p := ⟨w.heap.size, 0, none⟩) y1).trans p0
  have p1 := (hb8.cell (p := ⟨w.heap.size, 1, none⟩) y1).trans p1
  have p2 := (hb8.cell (p := ⟨w.heap.size, 2, none⟩) y1).trans p2
  have y1 : w.heap.size < w8.heap.size := by have := hb8.size; omega
  have hR := below2 hR hb8
  have hsl := hsl.kept hb8
  clear hb8
  obtain ⟨W, hW⟩ : ∃ W, W = w8.alloc (.cells #[.int .i64 xk, .int .i64 xn, .string xs] 23) := ⟨_, rfl⟩
  have hR : Below w.heap.size w W := by rw [hW]; exact below2 hR (below_alloc1 w8 _)
  obtain ⟨x0, x1, x2⟩ : B3 W w8.heap.size ⟨xk, xn, xs⟩ := by rw [hW]; exact B3.new w8 ⟨xk, xn, xs⟩ _ rfl
  simp only at x0 x1 x2
  have y2 : w8.heap.size < W.heap.size := by rw [hW]; simp
  clear p0 p1 p2 y1 hsl
  go_wp2_with fail
  rw [← hW]
  clear hW
  go_region_held3 (fun W => W.cell? ⟨w8.heap.size, 0, none⟩ = some (.int .i64 xk) ∧ W.cell? ⟨w8.heap.size, 1, none⟩ = some (.int .i64 xn) ∧ W.cell? ⟨w8.heap.size, 2, none⟩ = some (.string xs))
    (first | exact ⟨(hB.cell (p := ⟨w8.heap.size, 0, none⟩) y2).trans x0, (hB.cell (p := ⟨w8.heap.size, 1, none⟩) y2).trans x1, (hB.cell (p := ⟨w8.heap.size, 2, none⟩) y2).trans x2⟩ | go_keep)
    ((go_at_call 19; refine (cX _).mono ?_; rintro e wA ⟨rfl, hbA⟩; have hB := drew_below hbA))
  have hR := below2 hR hB
  clear hB x0 x1 x2 y2
  go_wp2_with fail
  refine (cLs _).mono ?_
  rintro e w50 ⟨aK, cK, rfl, slK, hb50⟩
  have hR := below2 hR hb50
  clear hb50
  go_wp2_with fail
  refine (vwakes_any _).mono ?_
  rintro e w99 ⟨rfl, hb99⟩
  go_wp2_with fail
  go_ret
  exact ⟨rfl, below2 hR hb99⟩

set_option maxHeartbeats 4000000 in
set_option maxRecDepth 100000 in
theorem back_w11 (v : V) (L : List Pr) (a : Option Addr) (cap : Nat) (s : ByteArray) (w : World) (hsl : Sl w a L) (hcap : a = none → cap = 0) (hN : ∀ p ∈ L, -9223372036854775808 ≤ p.v.n ∧ p.v.n ≤ 9223372036854775807) (hn : -9223372036854775808 ≤ v.n ∧ v.n ≤ 9223372036854775807) (h0 : ¬ 5000 < v.s.size) (h1 : largeL L = false) (h2 : ¬ (100000 : Int) < (s.size : Int)) (hA : encV v ≠ []) (hB : propsB L = false) (hC : (decV s 0).2.2 = true) (hD : (decL s 0).2.2 = true) :
    Calls Try.prog 7 #[v.val, .slice a L.length cap, .string s] w fun e w' => e = .returned (.bool true) ∧ Below w.heap.size w w' := by
  have h60 := (largeL_no h1).1
  have lv := fun w => largeValue_any v w _ (decide_eq_false h0)
  have cL := fun w h => largeProps_any L a cap w h
  rw [h1] at cL
  have cV := fun w => encode_any v w hn
  have cF := fun w h => few_any L a cap w h hcap (by omega)
  have cE := fun a' c' w h => encProps_any L a' c' w h hN
  have cDs := fun w => decode_any s 0 w (by omega)
  have cLs := fun w => decodeProps_any s 0 w (by omega)
  have hE := decV_enc (ba (encV v ++ [120])) 0 v [120] (by rw [List.drop_zero, data_ba]) hA hn
  rw [show ((0 : Nat) : Int) = 0 from rfl] at hE
  have hle := encV_le v
  have cDv := fun w => decode_any (ba (encV v ++ [120])) 0 w (by rw [ba_len, List.length_append, List.length_singleton]; omega)
  rw [hE, ← ba_len (encV v)] at cDv
  simp only [gotW] at cDv
  have hadd : ∀ W, (Op.stringOp .add (ba (encV v)) ⟨#[120]⟩).run Try.prog W = .ok (.string (ba (encV v ++ [120]))) W := fun W => run_add_ba (encV v) [120] (by rw [List.length_singleton]; omega) W
  have hT := list_some (ba (encV v)) (by rw [ba_len]; exact fun h => hA (List.eq_nil_of_length_eq_zero h))
  have cKv := fun w => keepValue_any v v w
  rw [eqV_refl] at cKv
  clear hE hle hA
  generalize ba (encV v ++ [120]) = T1 at *
  generalize ba (encV v) = T at *
  rw [show encR L = (⟨#[]⟩, 142) by unfold encR; rw [hB]; rfl] at cE
  clear hB
  simp only at cE
  obtain ⟨_, _, hc3, _, hc5, hc6⟩ := decV_in s 0 hC
  have hct := decV_took s 0 (by exact hC)
  rw [show ((0 : Nat) : Int) = 0 from rfl, List.drop_zero] at hct
  have cX := fun w => encode_any (decV s 0).1 w ⟨hc5, hc6⟩
  have hcut : ∀ W : World, (Instr.slice 9 (.string s) none (some (.int .i64 ((decV s 0).2.1 : Int))) none).run Try.prog W = .ok (.string (ba (encV (decV s 0).1))) W := by
    intro W
    rw [hct, ← cut_first]
    have := run_slice_string_h (P := Try.prog) (w := W) (t := 9) (s := s) Try.underlying9 .i64 ((decV s 0).2.1 : Int) (by omega) (by rw [show (0 : Int).toNat = 0 from rfl] at hc3; omega)
    simpa using this
  clear hct hc3 hc5 hc6
  generalize decV s 0 = d at *
  obtain ⟨⟨xk, xn, xs⟩, xz, xok⟩ := d
  simp only at hC
  subst hC
  simp only [gotW] at *
  generalize ba (encV ⟨xk, xn, xs⟩) = X at *
  obtain ⟨hd1, hd2, hd3, hd4⟩ := decL_took s 0 (by exact hD)
  rw [show ((0 : Nat) : Int) = 0 from rfl] at hd1 hd2 hd3 hd4
  rw [List.drop_zero] at hd2
  have cEK := fun a' c' w h => encProps_any (decL s 0).1 a' c' w h (fun p hp => ⟨(hd4 p hp).c, (hd4 p hp).d⟩)
  rw [show encR (decL s 0).1 = (ba (encL (decL s 0).1), 0) by unfold encR; rw [if_pos hd1]] at cEK
  have hcut2 : ∀ W : World, (Instr.slice 9 (.string s) none (some (.int .i64 ((decL s 0).2.1 : Int))) none).run Try.prog W = .ok (.string (ba (encL (decL s 0).1))) W := by
    intro W
    rw [hd2, ← cut_first]
    have := run_slice_string_h (P := Try.prog) (w := W) (t := 9) (s := s) Try.underlying9 .i64 ((decL s 0).2.1 : Int) (by omega) (by omega)
    simpa using this
  clear hd1 hd2 hd3 hd4
  generalize decL s 0 = k at *
  obtain ⟨Kl, kz, kok⟩ := k
  simp only at hD
  subst hD
  simp only at *
  generalize ba (encL Kl) = Y at *
  clear hN hn h0 h1 hcap h60
  have hsl := hsl.kept (below_alloc1 w (.cells #[.int .i64 v.k, .int .i64 v.n, .string v.s] 23))
  obtain ⟨p0, p1, p2⟩ := B3.new w v 23 rfl
  have hR := below_alloc1 w (.cells #[.int .i64 v.k, .int .i64 v.n, .string v.s] 23)
  have y1 : w.heap.size < (w.alloc (.cells #[.int .i64 v.k, .int .i64 v.n, .string v.s] 23)).heap.size := by simp
  obtain ⟨ak, an, sa⟩ := v
  simp only [V.val] at *
  go_enter Try.func7, Try.ntmps7
  go_wp2_with fail
  refine (lv _).mono ?_
  rintro e w1 ⟨rfl, hb1⟩
  have p0 := (hb1.cell (p := ⟨w.heap.size, 0, none⟩) y1).trans p0
  have p1 := (hb1.cell (p := ⟨w.heap.size, 1, none⟩) y1).trans p1
  have p2 := (hb1.cell (p := ⟨w.heap.size, 2, none⟩) y1).trans p2
  have y1 : w.heap.size < w1.heap.size := by have := hb1.size; omega
  have hR := below2 hR hb1
  have hsl := hsl.kept hb1
  clear hb1
  go_wp2_with fail
  refine (cL _ hsl).mono ?_
  rintro e w2 ⟨rfl, hb2⟩
  have p0 := (hb2.cell (p := ⟨w.heap.size, 0, none⟩) y1).trans p0
  have p1 := (hb2.cell (p := ⟨w.heap.size, 1, none⟩) y1).trans p1
  have p2 := (hb2.cell (p := ⟨w.heap.size, 2, none⟩) y1).trans p2
  have y1 : w.heap.size < w2.heap.size := by have := hb2.size; omega
  have hR := below2 hR hb2
  have hsl := hsl.kept hb2
  clear hb2
  go_wp2_with fail
  refine (cV _).mono ?_
  rintro e w3 ⟨rfl, hb3⟩
  have p0 := (hb3.cell (p := ⟨w.heap.size, 0, none⟩) y1).trans p0
  have p1 := (hb3.cell (p := ⟨w.heap.size, 1, none⟩) y1).trans p1
  have p2 := (hb3.cell (p := ⟨w.heap.size, 2, none⟩) y1).trans p2
  have y1 : w.heap.size < w3.heap.size := by have := hb3.size; omega
  have hR := below2 hR hb3
  have hsl := hsl.kept hb3
  clear hb3
  go_wp2_with fail
  refine (cDv _).mono ?_
  rintro e w4 ⟨rfl, hb4⟩
  have p0 := (hb4.cell (p := ⟨w.heap.size, 0, none⟩) y1).trans p0
  have p1 := (hb4.cell (p := ⟨w.heap.size, 1, none⟩) y1).trans p1
  have p2 := (hb4.cell (p := ⟨w.heap.size, 2, none⟩) y1).trans p2
  have y1 : w.heap.size < w4.heap.size := by have := hb4.size; omega
  have hR := below2 hR hb4
  have hsl := hsl.kept hb4
  clear hb4
  go_wp2_with fail
  refine (cKv _).mono ?_
  rintro e w5 ⟨rfl, hb5⟩
  have hb5 := below2 (below_alloc1 w4 _) hb5
  have p0 := (hb5.cell (p := ⟨w.heap.size, 0, none⟩) y1).trans p0
  have p1 := (hb5.cell (p := ⟨w.heap.size, 1, none⟩) y1).trans p1
  have p2 := (hb5.cell (p := ⟨w.heap.size, 2, none⟩) y1).trans p2
  have y1 : w.heap.size < w5.heap.size := by have := hb5.size; omega
  have hR := below2 hR hb5
  have hsl := hsl.kept hb5
  clear hb5
  go_wp2_with fail
  refine (cF _ hsl).mono ?_
  rintro e w6 ⟨aF, cFc, rfl, slF, hb6⟩
  have p0 := (hb6.cell (p := ⟨w.heap.size, 0, none⟩) y1).trans p0
  have p1 := (hb6.cell (p := ⟨w.heap.size, 1, none⟩) y1).trans p1
  have p2 := (hb6.cell (p := ⟨w.heap.size, 2, none⟩) y1).trans p2
  have y1 : w.heap.size < w6.heap.size := by have := hb6.size; omega
  have hR := below2 hR hb6
  have hsl := hsl.kept hb6
  clear hb6
  go_wp2_with fail
  refine (cE aF cFc _ slF).mono ?_
  rintro e w7 ⟨rfl, hb7⟩
  have p0 := (hb7.cell (p := ⟨w.heap.size, 0, none⟩) y1).trans p0
  have p1 := (hb7.cell (p := ⟨w.heap.size, 1, none⟩) y1).trans p1
  have p2 := (hb7.cell (p := ⟨w.heap.size, 2, none⟩) y1).trans p2
  have y1 : w.heap.size < w7.heap.size := by have := hb7.size; omega
  have hR := below2 hR hb7
  have hsl := hsl.kept hb7
  clear hb7
  go_wp2_with fail
  refine (cDs _).mono ?_
  rintro e w8 ⟨rfl, hb8⟩
  have p0 := (hb8.cell (p := ⟨w.heap.size, 0, none⟩) y1).trans p0
  have p1 := (hb8.cell (p := ⟨w.heap.size, 1, none⟩) y1).trans p1
  have p2 := (hb8.cell (p := ⟨w.heap.size, 2, none⟩) y1).trans p2
  have y1 : w.heap.size < w8.heap.size := by have := hb8.size; omega
  have hR := below2 hR hb8
  have hsl := hsl.kept hb8
  clear hb8
  obtain ⟨W, hW⟩ : ∃ W, W = w8.alloc (.cells #[.int .i64 xk, .int .i64 xn, .string xs] 23) := ⟨_, rfl⟩
  have hR : Below w.heap.size w W := by rw [hW]; exact below2 hR (below_alloc1 w8 _)
  obtain ⟨x0, x1, x2⟩ : B3 W w8.heap.size ⟨xk, xn, xs⟩ := by rw [hW]; exact B3.new w8 ⟨xk, xn, xs⟩ _ rfl
  simp only at x0 x1 x2
  have y2 : w8.heap.size < W.heap.size := by rw [hW]; simp
  clear p0 p1 p2 y1 hsl
  go_wp2_with fail
  rw [← hW]
  clear hW
  go_region_held3 (fun W => W.cell? ⟨w8.heap.size, 0, none⟩ = some (.int .i64 xk) ∧ W.cell? ⟨w8.heap.size, 1, none⟩ = some (.int .i64 xn) ∧ W.cell? ⟨w8.heap.size, 2, none⟩ = some (.string xs))
    (first | exact ⟨(hB.cell (p := ⟨w8.heap.size, 0, none⟩) y2).trans x0, (hB.cell (p := ⟨w8.heap.size, 1, none⟩) y2).trans x1, (hB.cell (p := ⟨w8.heap.size, 2, none⟩) y2).trans x2⟩ | go_keep)
    ((go_at_call 19; refine (cX _).mono ?_; rintro e wA ⟨rfl, hbA⟩; have hB := drew_below hbA))
  have hR := below2 hR hB
  clear hB x0 x1 x2 y2
  go_wp2_with fail
  refine (cLs _).mono ?_
  rintro e w50 ⟨aK, cK, rfl, slK, hb50⟩
  have hR := below2 hR hb50
  clear hb50
  go_wp2_with fail
  refine (cEK aK cK _ slK).mono ?_
  rintro e w51 ⟨rfl, hb51⟩
  have hR := below2 hR hb51
  clear hb51
  go_wp2_with fail
  refine (vwakes_any _).mono ?_
  rintro e w99 ⟨rfl, hb99⟩
  go_wp2_with fail
  go_ret
  exact ⟨rfl, below2 hR hb99⟩

end Go.Proofs.Ytndbhalkhejgjaa
end

section
namespace Go.Proofs.Ytndbhalkhejgjaa
open Go.RowKit
attribute [local go_sem ↓] Go.wp_at_zero Go.wp_at_succ

set_option maxHeartbeats 4000000 in
set_option maxRecDepth 100000 in
theorem back_w12 (v : V) (L : List Pr) (a : Option Addr) (cap : Nat) (s : ByteArray) (w : World) (hsl : Sl w a L) (hcap : a = none → cap = 0) (hN : ∀ p ∈ L, -9223372036854775808 ≤ p.v.n ∧ p.v.n ≤ 9223372036854775807) (hn : -9223372036854775808 ≤ v.n ∧ v.n ≤ 9223372036854775807) (h0 : ¬ 5000 < v.s.size) (h1 : largeL L = false) (h2 : ¬ (100000 : Int) < (s.size : Int)) (hA : encV v ≠ []) (hB : propsB L = true) (hC : (decV s 0).2.2 = false) (hD : (decL s 0).2.2 = false) :
    Calls Try.prog 7 #[v.val, .slice a L.length cap, .string s] w fun e w' => e = .returned (.bool true) ∧ Below w.heap.size w w' := by
  have h60 := (largeL_no h1).1
  have lv := fun w => largeValue_any v w _ (decide_eq_false h0)
  have cL := fun w h => largeProps_any L a cap w h
  rw [h1] at cL
  have cV := fun w => encode_any v w hn
  have cF := fun w h => few_any L a cap w h hcap (by omega)
  have cE := fun a' c' w h => encProps_any L a' c' w h hN
  have cDs := fun w => decode_any s 0 w (by omega)
  have cLs := fun w => decodeProps_any s 0 w (by omega)
  have hE := decV_enc (ba (encV v ++ [120])) 0 v [120] (by rw [List.drop_zero, data_ba]) hA hn
  rw [show ((0 : Nat) : Int) = 0 from rfl] at hE
  have hle := encV_le v
  have cDv := fun w => decode_any (ba (encV v ++ [120])) 0 w (by rw [ba_len, List.length_append, List.length_singleton]; omega)
  rw [hE, ← ba_len (encV v)] at cDv
  simp only [gotW] at cDv
  have hadd : ∀ W, (Op.stringOp .add (ba (encV v)) ⟨#[120]⟩).run Try.prog W = .ok (.string (ba (encV v ++ [120]))) W := fun W => run_add_ba (encV v) [120] (by rw [List.length_singleton]; omega) W
  have hT := list_some (ba (encV v)) (by rw [ba_len]; exact fun h => hA (List.eq_nil_of_length_eq_zero h))
  have cKv := fun w => keepValue_any v v w
  rw [eqV_refl] at cKv
  clear hE hle hA
  generalize ba (encV v ++ [120]) = T1 at *
  generalize ba (encV v) = T at *
  have hE2 := decL_enc (ba ([120] ++ encL L)) 1 L [] (by rw [data_ba, List.append_nil]; rfl) hB hN
  rw [show ((1 : Nat) : Int) = 1 from rfl] at hE2
  have hle2 := encL_le hB
  have cDL := fun w => decodeProps_any (ba ([120] ++ encL L)) 1 w (by rw [ba_len, List.length_append, List.length_singleton]; omega)
  rw [hE2, ← ba_len (encL L)] at cDL
  have hadd2 : ∀ W, (Op.stringOp .add ⟨#[120]⟩ (ba (encL L))).run Try.prog W = .ok (.string (ba ([120] ++ encL L))) W := fun W => run_add_ba [120] (encL L) (by rw [List.length_singleton]; omega) W
  rw [show encR L = (ba (encL L), 0) by unfold encR; rw [if_pos hB]] at cE
  have cKL := fun aX cX w h h' => keepProps_any L aX a cX cap w h h' (by omega)
  clear hE2 hle2 hB
  generalize ba ([120] ++ encL L) = U1 at *
  generalize ba (encL L) = U at *
  simp only at cDL cE
  rw [decV_no s 0 hC] at cDs
  clear hC
  simp only [gotW, noV] at cDs
  rw [decL_no s 0 hD] at cLs
  clear hD
  clear hN hn h0 h1 hcap h60
  have hsl := hsl.kept (below_alloc1 w (.cells #[.int .i64 v.k, .int .i64 v.n, .string v.s] 23))
  obtain ⟨p0, p1, p2⟩ := B3.new w v 23 rfl
  have hR := below_alloc1 w (.cells #[.int .i64 v.k, .int .i64 v.n, .string v.s] 23)
  have y1 : w.heap.size < (w.alloc (.cells #[.int .i64 v.k, .int .i64 v.n, .string v.s] 23)).heap.size := by simp
  obtain ⟨ak, an, sa⟩ := v
  simp only [V.val] at *
  go_enter Try.func7, Try.ntmps7
  go_wp2_with fail
  refine (lv _).mono ?_
  rintro e w1 ⟨rfl, hb1⟩
  have p0 := (hb1.cell (p := ⟨w.heap.size, 0, none⟩) y1).trans p0
  have p1 := (hb1.cell (p := ⟨w.heap.size, 1, none⟩) y1).trans p1
  have p2 := (hb1.cell (p := ⟨w.heap.size, 2, none⟩) y1).trans p2
  have y1 : w.heap.size < w1.heap.size := by have := hb1.size; omega
  have hR := below2 hR hb1
  have hsl := hsl.kept hb1
  clear hb1
  go_wp2_with fail
  refine (cL _ hsl).mono ?_
  rintro e w2 ⟨rfl, hb2⟩
  have p0 := (hb2.cell (p := ⟨w.heap.size, 0, none⟩) y1).trans p0
  have p1 := (hb2.cell (p := ⟨w.heap.size, 1, none⟩) y1).trans p1
  have p2 := (hb2.cell (p := ⟨w.heap.size, 2, none⟩) y1).trans p2
  have y1 : w.heap.size < w2.heap.size := by have := hb2.size; omega
  have hR := below2 hR hb2
  have hsl := hsl.kept hb2
  clear hb2
  go_wp2_with fail
  refine (cV _).mono ?_
  rintro e w3 ⟨rfl, hb3⟩
  have p0 := (hb3.cell (p := ⟨w.heap.size, 0, none⟩) y1).trans p0
  have p1 := (hb3.cell (p := ⟨w.heap.size, 1, none⟩) y1).trans p1
  have p2 := (hb3.cell (p := ⟨w.heap.size, 2, none⟩) y1).trans p2
  have y1 : w.heap.size < w3.heap.size := by have := hb3.size; omega
  have hR := below2 hR hb3
  have hsl := hsl.kept hb3
  clear hb3
  go_wp2_with fail
  refine (cDv _).mono ?_
  rintro e w4 ⟨rfl, hb4⟩
  have p0 := (hb4.cell (p := ⟨w.heap.size, 0, none⟩) y1).trans p0
  have p1 := (hb4.cell (p := ⟨w.heap.size, 1, none⟩) y1).trans p1
  have p2 := (hb4.cell (p := ⟨w.heap.size, 2, none⟩) y1).trans p2
  have y1 : w.heap.size < w4.heap.size := by have := hb4.size; omega
  have hR := below2 hR hb4
  have hsl := hsl.kept hb4
  clear hb4
  go_wp2_with fail
  refine (cKv _).mono ?_
  rintro e w5 ⟨rfl, hb5⟩
  have hb5 := below2 (below_alloc1 w4 _) hb5
  have p0 := (hb5.cell (p := ⟨w.heap.size, 0, none⟩) y1).trans p0
  have p1 := (hb5.cell (p := ⟨w.heap.size, 1, none⟩) y1).trans p1
  have p2 := (hb5.cell (p := ⟨w.heap.size, 2, none⟩) y1).trans p2
  have y1 : w.heap.size < w5.heap.size := by have := hb5.size; omega
  have hR := below2 hR hb5
  have hsl := hsl.kept hb5
  clear hb5
  go_wp2_with fail
  refine (cF _ hsl).mono ?_
  rintro e w6 ⟨aF, cFc, rfl, slF, hb6⟩
  have p0 := (hb6.cell (p := ⟨w.heap.size, 0, none⟩) y1).trans p0
  have p1 := (hb6.cell (p := ⟨w.heap.size, 1, none⟩) y1).trans p1
  have p2 := (hb6.cell (p := ⟨w.heap.size, 2, none⟩) y1).trans p2
  have y1 : w.heap.size < w6.heap.size := by have := hb6.size; omega
  have hR := below2 hR hb6
  have hsl := hsl.kept hb6
  clear hb6
  go_wp2_with fail
  refine (cE aF cFc _ slF).mono ?_
  rintro e w7 ⟨rfl, hb7⟩
  have p0 := (hb7.cell (p := ⟨w.heap.size, 0, none⟩) y1).trans p0
  have p1 := (hb7.cell (p := ⟨w.heap.size, 1, none⟩) y1).trans p1
  have p2 := (hb7.cell (p := ⟨w.heap.size, 2, none⟩) y1).trans p2
  have y1 : w.heap.size < w7.heap.size := by have := hb7.size; omega
  have hR := below2 hR hb7
  have hsl := hsl.kept hb7
  clear hb7
  go_wp2_with fail
  refine (cDL _).mono ?_
  rintro e w8 ⟨aX, cX', rfl, slX, hb8⟩
  have p0 := (hb8.cell (p := ⟨w.heap.size, 0, none⟩) y1).trans p0
  have p1 := (hb8.cell (p := ⟨w.heap.size, 1, none⟩) y1).trans p1
  have p2 := (hb8.cell (p := ⟨w.heap.size, 2, none⟩) y1).trans p2
  have y1 : w.heap.size < w8.heap.size := by have := hb8.size; omega
  have hR := below2 hR hb8
  have hsl := hsl.kept hb8
  clear hb8
  go_wp2_with fail
  refine (cKL aX cX' _ slX hsl).mono ?_
  rintro e w9 ⟨rfl, hb9⟩
  have p0 := (hb9.cell (p := ⟨w.heap.size, 0, none⟩) y1).trans p0
  have p1 := (hb9.cell (p := ⟨w.heap.size, 1, none⟩) y1).trans p1
  have p2 := (hb9.cell (p := ⟨w.heap.size, 2, none⟩) y1).trans p2
  have y1 : w.heap.size < w9.heap.size := by have := hb9.size; omega
  have hR := below2 hR hb9
  have hsl := hsl.kept hb9
  clear hb9
  go_wp2_with fail
  refine (cDs _).mono ?_
  rintro e w10 ⟨rfl, hb10⟩
  have p0 := (hb10.cell (p := ⟨w.heap.size, 0, none⟩) y1).trans p0
  have p1 := (hb10.cell (p := ⟨w.heap.size, 1, none⟩) y1).trans p1
  have p2 := (hb10.cell (p := ⟨w.heap.size, 2, none⟩) y1).trans p2
  have y1 : w.heap.size < w10.heap.size := by have := hb10.size; omega
  have hR := below2 hR hb10
  have hsl := hsl.kept hb10
  clear hb10
  obtain ⟨W, hW⟩ : ∃ W, W = w10.alloc (.cells #[.int .i64 0, .int .i64 0, .string ⟨#[]⟩] 23) := ⟨_, rfl⟩
  have hR : Below w.heap.size w W := by rw [hW]; exact below2 hR (below_alloc1 w10 _)
  clear p0 p1 p2 y1 hsl
  go_wp2_with fail
  rw [← hW]
  clear hW
  have hR : Below w.heap.size w W.drew := hR.drew
  refine wp_region_held (S := fun _ => True) (by kernel_rfl) ?_
  change wpAnyH _ _ _ _ _ _ _ _ (World.drew _)
  refine takeD 0 98 (v := .bool false) rfl rfl (by kernel_rfl) (by kernel_rfl) (by kernel_rfl) (fun _ _ _ h => h) (Or.inl ⟨by kernel_rfl, fun _ _ => by kernel_rfl⟩) trivial ?_
  simp only [List.setIfInBounds_toArray, List.set_cons_zero, List.set_cons_succ]
  refine takeD 1 99 (v := .bool false) rfl rfl (by kernel_rfl) (by kernel_rfl) (by kernel_rfl) (fun _ _ _ h => h) (Or.inl ⟨by kernel_rfl, fun _ _ => by kernel_rfl⟩) trivial ?_
  simp only [List.setIfInBounds_toArray, List.set_cons_zero, List.set_cons_succ]
  refine takeD 2 100 (v := undef) rfl rfl (by kernel_rfl) (by kernel_rfl) (by kernel_rfl) (fun _ _ _ h => h) (Or.inr ⟨by kernel_rfl, rfl⟩) trivial ?_
  simp only [List.setIfInBounds_toArray, List.set_cons_zero, List.set_cons_succ]
  refine takeD 3 101 (v := undef) rfl rfl (by kernel_rfl) (by kernel_rfl) (by kernel_rfl) (fun _ _ _ h => h) (Or.inr ⟨by kernel_rfl, rfl⟩) trivial ?_
  simp only [List.setIfInBounds_toArray, List.set_cons_zero, List.set_cons_succ]
  refine takeD 4 102 (v := undef) rfl rfl (by kernel_rfl) (by kernel_rfl) (by kernel_rfl) (fun _ _ _ h => h) (Or.inr ⟨by kernel_rfl, rfl⟩) trivial ?_
  simp only [List.setIfInBounds_toArray, List.set_cons_zero, List.set_cons_succ]
  refine takeD 5 103 (v := undef) rfl rfl (by kernel_rfl) (by kernel_rfl) (by kernel_rfl) (fun _ _ _ h => h) (Or.inr ⟨by kernel_rfl, rfl⟩) trivial ?_
  simp only [List.setIfInBounds_toArray, List.set_cons_zero, List.set_cons_succ]
  refine takeD 6 104 (v := undef) rfl rfl (by kernel_rfl) (by kernel_rfl) (by kernel_rfl) (fun _ _ _ h => h) (Or.inr ⟨by kernel_rfl, rfl⟩) trivial ?_
  simp only [List.setIfInBounds_toArray, List.set_cons_zero, List.set_cons_succ]
  refine takeD 7 105 (v := undef) rfl rfl (by kernel_rfl) (by kernel_rfl) (by kernel_rfl) (fun _ _ _ h => h) (Or.inr ⟨by kernel_rfl, rfl⟩) trivial ?_
  simp only [List.setIfInBounds_toArray, List.set_cons_zero, List.set_cons_succ]
  refine takeD 8 106 (v := .bool false) rfl rfl (by kernel_rfl) (by kernel_rfl) (by kernel_rfl) (fun _ _ _ h => h) (Or.inl ⟨by kernel_rfl, fun _ _ => by kernel_rfl⟩) trivial ?_
  simp only [List.setIfInBounds_toArray, List.set_cons_zero, List.set_cons_succ]
  refine wpAnyH_done (by kernel_rfl) ?_ _
  go_wp2_with fail
  refine (cLs _).mono ?_
  rintro e w50 ⟨aK, cK, rfl, slK, hb50⟩
  have hR := below2 hR hb50
  clear hb50
  go_wp2_with fail
  refine (vwakes_any _).mono ?_
  rintro e w99 ⟨rfl, hb99⟩
  go_wp2_with fail
  go_ret
  exact ⟨rfl, below2 hR hb99⟩

set_option maxHeartbeats 4000000 in
set_option maxRecDepth 100000 in
theorem back_w13 (v : V) (L : List Pr) (a : Option Addr) (cap : Nat) (s : ByteArray) (w : World) (hsl : Sl w a L) (hcap : a = none → cap = 0) (hN : ∀ p ∈ L, -9223372036854775808 ≤ p.v.n ∧ p.v.n ≤ 9223372036854775807) (hn : -9223372036854775808 ≤ v.n ∧ v.n ≤ 9223372036854775807) (h0 : ¬ 5000 < v.s.size) (h1 : largeL L = false) (h2 : ¬ (100000 : Int) < (s.size : Int)) (hA : encV v ≠ []) (hB : propsB L = true) (hC : (decV s 0).2.2 = false) (hD : (decL s 0).2.2 = true) :
    Calls Try.prog 7 #[v.val, .slice a L.length cap, .string s] w fun e w' => e = .returned (.bool true) ∧ Below w.heap.size w w' := by
  have h60 := (largeL_no h1).1
  have lv := fun w => largeValue_any v w _ (decide_eq_false h0)
  have cL := fun w h => largeProps_any L a cap w h
  rw [h1] at cL
  have cV := fun w => encode_any v w hn
  have cF := fun w h => few_any L a cap w h hcap (by omega)
  have cE := fun a' c' w h => encProps_any L a' c' w h hN
  have cDs := fun w => decode_any s 0 w (by omega)
  have cLs := fun w => decodeProps_any s 0 w (by omega)
  have hE := decV_enc (ba (encV v ++ [120])) 0 v [120] (by rw [List.drop_zero, data_ba]) hA hn
  rw [show ((0 : Nat) : Int) = 0 from rfl] at hE
  have hle := encV_le v
  have cDv := fun w => decode_any (ba (encV v ++ [120])) 0 w (by rw [ba_len, List.length_append, List.length_singleton]; omega)
  rw [hE, ← ba_len (encV v)] at cDv
  simp only [gotW] at cDv
  have hadd : ∀ W, (Op.stringOp .add (ba (encV v)) ⟨#[120]⟩).run Try.prog W = .ok (.string (ba (encV v ++ [120]))) W := fun W => run_add_ba (encV v) [120] (by rw [List.length_singleton]; omega) W
  have hT := list_some (ba (encV v)) (by rw [ba_len]; exact fun h => hA (List.eq_nil_of_length_eq_zero h))
  have cKv := fun w => keepValue_any v v w
  rw [eqV_refl] at cKv
  clear hE hle hA
  generalize ba (encV v ++ [120]) = T1 at *
  generalize ba (encV v) = T at *
  have hE2 := decL_enc (ba ([120] ++ encL L)) 1 L [] (by rw [data_ba, List.append_nil]; rfl) hB hN
  rw [show ((1 : Nat) : Int) = 1 from rfl] at hE2
  have hle2 := encL_le hB
  have cDL := fun w => decodeProps_any (ba ([120] ++ encL L)) 1 w (by rw [ba_len, List.length_append, List.length_singleton]; omega)
  rw [hE2, ← ba_len (encL L)] at cDL
  have hadd2 : ∀ W, (Op.stringOp .add ⟨#[120]⟩ (ba (encL L))).run Try.prog W = .ok (.string (ba ([120] ++ encL L))) W := fun W => run_add_ba [120] (encL L) (by rw [List.length_singleton]; omega) W
  rw [show encR L = (ba (encL L), 0) by unfold encR; rw [if_pos hB]] at cE
  have cKL := fun aX cX w h h' => keepProps_any L aX a cX cap w h h' (by omega)
  clear hE2 hle2 hB
  generalize ba ([120] ++ encL L) = U1 at *
  generalize ba (encL L) = U at *
  simp only at cDL cE
  rw [decV_no s 0 hC] at cDs
  clear hC
  simp only [gotW, noV] at cDs
  obtain ⟨hd1, hd2, hd3, hd4⟩ := decL_took s 0 (by exact hD)
  rw [show ((0 : Nat) : Int) = 0 from rfl] at hd1 hd2 hd3 hd4
  rw [List.drop_zero] at hd2
  have cEK := fun a' c' w h => encProps_any (decL s 0).1 a' c' w h (fun p hp => ⟨(hd4 p hp).c, (hd4 p hp).d⟩)
  rw [show encR (decL s 0).1 = (ba (encL (decL s 0).1), 0) by unfold encR; rw [if_pos hd1]] at cEK
  have hcut2 : ∀ W : World, (Instr.slice 9 (.string s) none (some (.int .i64 ((decL s 0).2.1 : Int))) none).run Try.prog W = .ok (.string (ba (encL (decL s 0).1))) W := by
    intro W
    rw [hd2, ← cut_first]
    have := run_slice_string_h (P := Try.prog) (w := W) (t := 9) (s := s) Try.underlying9 .i64 ((decL s 0).2.1 : Int) (by omega) (by omega)
    simpa using this
  clear hd1 hd2 hd3 hd4
  generalize decL s 0 = k at *
  obtain ⟨Kl, kz, kok⟩ := k
  simp only at hD
  subst hD
  simp only at *
  generalize ba (encL Kl) = Y at *
  clear hN hn h0 h1 hcap h60
  have hsl := hsl.kept (below_alloc1 w (.cells #[.int .i64 v.k, .int .i64 v.n, .string v.s] 23))
  obtain ⟨p0, p1, p2⟩ := B3.new w v 23 rfl
  have hR := below_alloc1 w (.cells #[.int .i64 v.k, .int .i64 v.n, .string v.s] 23)
  have y1 : w.heap.size < (w.alloc (.cells #[.int .i64 v.k, .int .i64 v.n, .string v.s] 23)).heap.size := by simp
  obtain ⟨ak, an, sa⟩ := v
  simp only [V.val] at *
  go_enter Try.func7, Try.ntmps7
  go_wp2_with fail
  refine (lv _).mono ?_
  rintro e w1 ⟨rfl, hb1⟩
  have p0 := (hb1.cell (p := ⟨w.heap.size, 0, none⟩) y1).trans p0
  have p1 := (hb1.cell (p := ⟨w.heap.size, 1, none⟩) y1).trans p1
  have p2 := (hb1.cell (p := ⟨w.heap.size, 2, none⟩) y1).trans p2
  have y1 : w.heap.size < w1.heap.size := by have := hb1.size; omega
  have hR := below2 hR hb1
  have hsl := hsl.kept hb1
  clear hb1
  go_wp2_with fail
  refine (cL _ hsl).mono ?_
  rintro e w2 ⟨rfl, hb2⟩
  have p0 := (hb2.cell (p := ⟨w.heap.size, 0, none⟩) y1).trans p0
  have p1 := (hb2.cell (p := ⟨w.heap.size, 1, none⟩) y1).trans p1
  have p2 := (hb2.cell (p := ⟨w.heap.size, 2, none⟩) y1).trans p2
  have y1 : w.heap.size < w2.heap.size := by have := hb2.size; omega
  have hR := below2 hR hb2
  have hsl := hsl.kept hb2
  clear hb2
  go_wp2_with fail
  refine (cV _).mono ?_
  rintro e w3 ⟨rfl, hb3⟩
  have p0 := (hb3.cell (p := ⟨w.heap.size, 0, none⟩) y1).trans p0
  have p1 := (hb3.cell (p := ⟨w.heap.size, 1, none⟩) y1).trans p1
  have p2 := (hb3.cell (p := ⟨w.heap.size, 2, none⟩) y1).trans p2
  have y1 : w.heap.size < w3.heap.size := by have := hb3.size; omega
  have hR := below2 hR hb3
  have hsl := hsl.kept hb3
  clear hb3
  go_wp2_with fail
  refine (cDv _).mono ?_
  rintro e w4 ⟨rfl, hb4⟩
  have p0 := (hb4.cell (p := ⟨w.heap.size, 0, none⟩) y1).trans p0
  have p1 := (hb4.cell (p := ⟨w.heap.size, 1, none⟩) y1).trans p1
  have p2 := (hb4.cell (p := ⟨w.heap.size, 2, none⟩) y1).trans p2
  have y1 : w.heap.size < w4.heap.size := by have := hb4.size; omega
  have hR := below2 hR hb4
  have hsl := hsl.kept hb4
  clear hb4
  go_wp2_with fail
  refine (cKv _).mono ?_
  rintro e w5 ⟨rfl, hb5⟩
  have hb5 := below2 (below_alloc1 w4 _) hb5
  have p0 := (hb5.cell (p := ⟨w.heap.size, 0, none⟩) y1).trans p0
  have p1 := (hb5.cell (p := ⟨w.heap.size, 1, none⟩) y1).trans p1
  have p2 := (hb5.cell (p := ⟨w.heap.size, 2, none⟩) y1).trans p2
  have y1 : w.heap.size < w5.heap.size := by have := hb5.size; omega
  have hR := below2 hR hb5
  have hsl := hsl.kept hb5
  clear hb5
  go_wp2_with fail
  refine (cF _ hsl).mono ?_
  rintro e w6 ⟨aF, cFc, rfl, slF, hb6⟩
  have p0 := (hb6.cell (p := ⟨w.heap.size, 0, none⟩) y1).trans p0
  have p1 := (hb6.cell (p := ⟨w.heap.size, 1, none⟩) y1).trans p1
  have p2 := (hb6.cell (p := ⟨w.heap.size, 2, none⟩) y1).trans p2
  have y1 : w.heap.size < w6.heap.size := by have := hb6.size; omega
  have hR := below2 hR hb6
  have hsl := hsl.kept hb6
  clear hb6
  go_wp2_with fail
  refine (cE aF cFc _ slF).mono ?_
  rintro e w7 ⟨rfl, hb7⟩
  have p0 := (hb7.cell (p := ⟨w.heap.size, 0, none⟩) y1).trans p0
  have p1 := (hb7.cell (p := ⟨w.heap.size, 1, none⟩) y1).trans p1
  have p2 := (hb7.cell (p := ⟨w.heap.size, 2, none⟩) y1).trans p2
  have y1 : w.heap.size < w7.heap.size := by have := hb7.size; omega
  have hR := below2 hR hb7
  have hsl := hsl.kept hb7
  clear hb7
  go_wp2_with fail
  refine (cDL _).mono ?_
  rintro e w8 ⟨aX, cX', rfl, slX, hb8⟩
  have p0 := (hb8.cell (p := ⟨w.heap.size, 0, none⟩) y1).trans p0
  have p1 := (hb8.cell (p := ⟨w.heap.size, 1, none⟩) y1).trans p1
  have p2 := (hb8.cell (p := ⟨w.heap.size, 2, none⟩) y1).trans p2
  have y1 : w.heap.size < w8.heap.size := by have := hb8.size; omega
  have hR := below2 hR hb8
  have hsl := hsl.kept hb8
  clear hb8
  go_wp2_with fail
  refine (cKL aX cX' _ slX hsl).mono ?_
  rintro e w9 ⟨rfl, hb9⟩
  have p0 := (hb9.cell (p := ⟨w.heap.size, 0, none⟩) y1).trans p0
  have p1 := (hb9.cell (p := ⟨w.heap.size, 1, none⟩) y1).trans p1
  have p2 := (hb9.cell (p := ⟨w.heap.size, 2, none⟩) y1).trans p2
  have y1 : w.heap.size < w9.heap.size := by have := hb9.size; omega
  have hR := below2 hR hb9
  have hsl := hsl.kept hb9
  clear hb9
  go_wp2_with fail
  refine (cDs _).mono ?_
  rintro e w10 ⟨rfl, hb10⟩
  have p0 := (hb10.cell (p := ⟨w.heap.size, 0, none⟩) y1).trans p0
  have p1 := (hb10.cell (p := ⟨w.heap.size, 1, none⟩) y1).trans p1
  have p2 := (hb10.cell (p := ⟨w.heap.size, 2, none⟩) y1).trans p2
  have y1 : w.heap.size < w10.heap.size := by have := hb10.size; omega
  have hR := below2 hR hb10
  have hsl := hsl.kept hb10
  clear hb10
  obtain ⟨W, hW⟩ : ∃ W, W = w10.alloc (.cells #[.int .i64 0, .int .i64 0, .string ⟨#[]⟩] 23) := ⟨_, rfl⟩
  have hR : Below w.heap.size w W := by rw [hW]; exact below2 hR (below_alloc1 w10 _)
  clear p0 p1 p2 y1 hsl
  go_wp2_with fail
  rw [← hW]
  clear hW
  have hR : Below w.heap.size w W.drew := hR.drew
  refine wp_region_held (S := fun _ => True) (by kernel_rfl) ?_
  change wpAnyH _ _ _ _ _ _ _ _ (World.drew _)
  refine takeD 0 98 (v := .bool false) rfl rfl (by kernel_rfl) (by kernel_rfl) (by kernel_rfl) (fun _ _ _ h => h) (Or.inl ⟨by kernel_rfl, fun _ _ => by kernel_rfl⟩) trivial ?_
  simp only [List.setIfInBounds_toArray, List.set_cons_zero, List.set_cons_succ]
  refine takeD 1 99 (v := .bool false) rfl rfl (by kernel_rfl) (by kernel_rfl) (by kernel_rfl) (fun _ _ _ h => h) (Or.inl ⟨by kernel_rfl, fun _ _ => by kernel_rfl⟩) trivial ?_
  simp only [List.setIfInBounds_toArray, List.set_cons_zero, List.set_cons_succ]
  refine takeD 2 100 (v := undef) rfl rfl (by kernel_rfl) (by kernel_rfl) (by kernel_rfl) (fun _ _ _ h => h) (Or.inr ⟨by kernel_rfl, rfl⟩) trivial ?_
  simp only [List.setIfInBounds_toArray, List.set_cons_zero, List.set_cons_succ]
  refine takeD 3 101 (v := undef) rfl rfl (by kernel_rfl) (by kernel_rfl) (by kernel_rfl) (fun _ _ _ h => h) (Or.inr ⟨by kernel_rfl, rfl⟩) trivial ?_
  simp only [List.setIfInBounds_toArray, List.set_cons_zero, List.set_cons_succ]
  refine takeD 4 102 (v := undef) rfl rfl (by kernel_rfl) (by kernel_rfl) (by kernel_rfl) (fun _ _ _ h => h) (Or.inr ⟨by kernel_rfl, rfl⟩) trivial ?_
  simp only [List.setIfInBounds_toArray, List.set_cons_zero, List.set_cons_succ]
  refine takeD 5 103 (v := undef) rfl rfl (by kernel_rfl) (by kernel_rfl) (by kernel_rfl) (fun _ _ _ h => h) (Or.inr ⟨by kernel_rfl, rfl⟩) trivial ?_
  simp only [List.setIfInBounds_toArray, List.set_cons_zero, List.set_cons_succ]
  refine takeD 6 104 (v := undef) rfl rfl (by kernel_rfl) (by kernel_rfl) (by kernel_rfl) (fun _ _ _ h => h) (Or.inr ⟨by kernel_rfl, rfl⟩) trivial ?_
  simp only [List.setIfInBounds_toArray, List.set_cons_zero, List.set_cons_succ]
  refine takeD 7 105 (v := undef) rfl rfl (by kernel_rfl) (by kernel_rfl) (by kernel_rfl) (fun _ _ _ h => h) (Or.inr ⟨by kernel_rfl, rfl⟩) trivial ?_
  simp only [List.setIfInBounds_toArray, List.set_cons_zero, List.set_cons_succ]
  refine takeD 8 106 (v := .bool false) rfl rfl (by kernel_rfl) (by kernel_rfl) (by kernel_rfl) (fun _ _ _ h => h) (Or.inl ⟨by kernel_rfl, fun _ _ => by kernel_rfl⟩) trivial ?_
  simp only [List.setIfInBounds_toArray, List.set_cons_zero, List.set_cons_succ]
  refine wpAnyH_done (by kernel_rfl) ?_ _
  go_wp2_with fail
  refine (cLs _).mono ?_
  rintro e w50 ⟨aK, cK, rfl, slK, hb50⟩
  have hR := below2 hR hb50
  clear hb50
  go_wp2_with fail
  refine (cEK aK cK _ slK).mono ?_
  rintro e w51 ⟨rfl, hb51⟩
  have hR := below2 hR hb51
  clear hb51
  go_wp2_with fail
  refine (vwakes_any _).mono ?_
  rintro e w99 ⟨rfl, hb99⟩
  go_wp2_with fail
  go_ret
  exact ⟨rfl, below2 hR hb99⟩

end Go.Proofs.Ytndbhalkhejgjaa
end

section
namespace Go.Proofs.Ytndbhalkhejgjaa
open Go.RowKit
attribute [local go_sem ↓] Go.wp_at_zero Go.wp_at_succ

set_option maxHeartbeats 4000000 in
set_option maxRecDepth 100000 in
theorem back_w14 (v : V) (L : List Pr) (a : Option Addr) (cap : Nat) (s : ByteArray) (w : World) (hsl : Sl w a L) (hcap : a = none → cap = 0) (hN : ∀ p ∈ L, -9223372036854775808 ≤ p.v.n ∧ p.v.n ≤ 9223372036854775807) (hn : -9223372036854775808 ≤ v.n ∧ v.n ≤ 9223372036854775807) (h0 : ¬ 5000 < v.s.size) (h1 : largeL L = false) (h2 : ¬ (100000 : Int) < (s.size : Int)) (hA : encV v ≠ []) (hB : propsB L = true) (hC : (decV s 0).2.2 = true) (hD : (decL s 0).2.2 = false) :
    Calls Try.prog 7 #[v.val, .slice a L.length cap, .string s] w fun e w' => e = .returned (.bool true) ∧ Below w.heap.size w w' := by
  have h60 := (largeL_no h1).1
  have lv := fun w => largeValue_any v w _ (decide_eq_false h0)
  have cL := fun w h => largeProps_any L a cap w h
  rw [h1] at cL
  have cV := fun w => encode_any v w hn
  have cF := fun w h => few_any L a cap w h hcap (by omega)
  have cE := fun a' c' w h => encProps_any L a' c' w h hN
  have cDs := fun w => decode_any s 0 w (by omega)
  have cLs := fun w => decodeProps_any s 0 w (by omega)
  have hE := decV_enc (ba (encV v ++ [120])) 0 v [120] (by rw [List.drop_zero, data_ba]) hA hn
  rw [show ((0 : Nat) : Int) = 0 from rfl] at hE
  have hle := encV_le v
  have cDv := fun w => decode_any (ba (encV v ++ [120])) 0 w (by rw [ba_len, List.length_append, List.length_singleton]; omega)
  rw [hE, ← ba_len (encV v)] at cDv
  simp only [gotW] at cDv
  have hadd : ∀ W, (Op.stringOp .add (ba (encV v)) ⟨#[120]⟩).run Try.prog W = .ok (.string (ba (encV v ++ [120]))) W := fun W => run_add_ba (encV v) [120] (by rw [List.length_singleton]; omega) W
  have hT := list_some (ba (encV v)) (by rw [ba_len]; exact fun h => hA (List.eq_nil_of_length_eq_zero h))
  have cKv := fun w => keepValue_any v v w
  rw [eqV_refl] at cKv
  clear hE hle hA
  generalize ba (encV v ++ [120]) = T1 at *
  generalize ba (encV v) = T at *
  have hE2 := decL_enc (ba ([120] ++ encL L)) 1 L [] (by rw [data_ba, List.append_nil]; rfl) hB hN
  rw [show ((1 : Nat) : Int) = 1 from rfl] at hE2
  have hle2 := encL_le hB
  have cDL := fun w => decodeProps_any (ba ([120] ++ encL L)) 1 w (by rw [ba_len, List.length_append, List.length_singleton]; omega)
  rw [hE2, ← ba_len (encL L)] at cDL
  have hadd2 : ∀ W, (Op.stringOp .add ⟨#[120]⟩ (ba (encL L))).run Try.prog W = .ok (.string (ba ([120] ++ encL L))) W := fun W => run_add_ba [120] (encL L) (by rw [List.length_singleton]; omega) W
  rw [show encR L = (ba (encL L), 0) by unfold encR; rw [if_pos hB]] at cE
  have cKL := fun aX cX w h h' => keepProps_any L aX a cX cap w h h' (by omega)
  clear hE2 hle2 hB
  generalize ba ([120] ++ encL L) = U1 at *
  generalize ba (encL L) = U at *
  simp only at cDL cE
  obtain ⟨_, _, hc3, _, hc5, hc6⟩ := decV_in s 0 hC
  have hct := decV_took s 0 (by exact hC)
  rw [show ((0 : Nat) : Int) = 0 from rfl, List.drop_zero] at hct
  have cX := fun w => encode_any (decV s 0).1 w ⟨hc5, hc6⟩
  have hcut : ∀ W : World, (Instr.slice 9 (.string s) none (some (.int .i64 ((decV s 0).2.1 : Int))) none).run Try.prog W = .ok (.string (ba (encV (decV s 0).1))) W := by
    intro W
    rw [hct, ← cut_first]
    have := run_slice_string_h (P := Try.prog) (w := W) (t := 9) (s := s) Try.underlying9 .i64 ((decV s 0).2.1 : Int) (by omega) (by rw [show (0 : Int).toNat = 0 from rfl] at hc3; omega)
    simpa using this
  clear hct hc3 hc5 hc6
  generalize decV s 0 = d at *
  obtain ⟨⟨xk, xn, xs⟩, xz, xok⟩ := d
  simp only at hC
  subst hC
  simp only [gotW] at *
  generalize ba (encV ⟨xk, xn, xs⟩) = X at *
  rw [decL_no s 0 hD] at cLs
  clear hD
  clear hN hn h0 h1 hcap h60
  have hsl := hsl.kept (below_alloc1 w (.cells #[.int .i64 v.k, .int .i64 v.n, .string v.s] 23))
  obtain ⟨p0, p1, p2⟩ := B3.new w v 23 rfl
  have hR := below_alloc1 w (.cells #[.int .i64 v.k, .int .i64 v.n, .string v.s] 23)
  have y1 : w.heap.size < (w.alloc (.cells #[.int .i64 v.k, .int .i64 v.n, .string v.s] 23)).heap.size := by simp
  obtain ⟨ak, an, sa⟩ := v
  simp only [V.val] at *
  go_enter Try.func7, Try.ntmps7
  go_wp2_with fail
  refine (lv _).mono ?_
  rintro e w1 ⟨rfl, hb1⟩
  have p0 := (hb1.cell (p := ⟨w.heap.size, 0, none⟩) y1).trans p0
  have p1 := (hb1.cell (p := ⟨w.heap.size, 1, none⟩) y1).trans p1
  have p2 := (hb1.cell (p := ⟨w.heap.size, 2, none⟩) y1).trans p2
  have y1 : w.heap.size < w1.heap.size := by have := hb1.size; omega
  have hR := below2 hR hb1
  have hsl := hsl.kept hb1
  clear hb1
  go_wp2_with fail
  refine (cL _ hsl).mono ?_
  rintro e w2 ⟨rfl, hb2⟩
  have p0 := (hb2.cell (p := ⟨w.heap.size, 0, none⟩) y1).trans p0
  have p1 := (hb2.cell (p := ⟨w.heap.size, 1, none⟩) y1).trans p1
  have p2 := (hb2.cell (p := ⟨w.heap.size, 2, none⟩) y1).trans p2
  have y1 : w.heap.size < w2.heap.size := by have := hb2.size; omega
  have hR := below2 hR hb2
  have hsl := hsl.kept hb2
  clear hb2
  go_wp2_with fail
  refine (cV _).mono ?_
  rintro e w3 ⟨rfl, hb3⟩
  have p0 := (hb3.cell (p := ⟨w.heap.size, 0, none⟩) y1).trans p0
  have p1 := (hb3.cell (p := ⟨w.heap.size, 1, none⟩) y1).trans p1
  have p2 := (hb3.cell (p := ⟨w.heap.size, 2, none⟩) y1).trans p2
  have y1 : w.heap.size < w3.heap.size := by have := hb3.size; omega
  have hR := below2 hR hb3
  have hsl := hsl.kept hb3
  clear hb3
  go_wp2_with fail
  refine (cDv _).mono ?_
  rintro e w4 ⟨rfl, hb4⟩
  have p0 := (hb4.cell (p := ⟨w.heap.size, 0, none⟩) y1).trans p0
  have p1 := (hb4.cell (p := ⟨w.heap.size, 1, none⟩) y1).trans p1
  have p2 := (hb4.cell (p := ⟨w.heap.size, 2, none⟩) y1).trans p2
  have y1 : w.heap.size < w4.heap.size := by have := hb4.size; omega
  have hR := below2 hR hb4
  have hsl := hsl.kept hb4
  clear hb4
  go_wp2_with fail
  refine (cKv _).mono ?_
  rintro e w5 ⟨rfl, hb5⟩
  have hb5 := below2 (below_alloc1 w4 _) hb5
  have p0 := (hb5.cell (p := ⟨w.heap.size, 0, none⟩) y1).trans p0
  have p1 := (hb5.cell (p := ⟨w.heap.size, 1, none⟩) y1).trans p1
  have p2 := (hb5.cell (p := ⟨w.heap.size, 2, none⟩) y1).trans p2
  have y1 : w.heap.size < w5.heap.size := by have := hb5.size; omega
  have hR := below2 hR hb5
  have hsl := hsl.kept hb5
  clear hb5
  go_wp2_with fail
  refine (cF _ hsl).mono ?_
  rintro e w6 ⟨aF, cFc, rfl, slF, hb6⟩
  have p0 := (hb6.cell (p := ⟨w.heap.size, 0, none⟩) y1).trans p0
  have p1 := (hb6.cell (p := ⟨w.heap.size, 1, none⟩) y1).trans p1
  have p2 := (hb6.cell (p := ⟨w.heap.size, 2, none⟩) y1).trans p2
  have y1 : w.heap.size < w6.heap.size := by have := hb6.size; omega
  have hR := below2 hR hb6
  have hsl := hsl.kept hb6
  clear hb6
  go_wp2_with fail
  refine (cE aF cFc _ slF).mono ?_
  rintro e w7 ⟨rfl, hb7⟩
  have p0 := (hb7.cell (p := ⟨w.heap.size, 0, none⟩) y1).trans p0
  have p1 := (hb7.cell (p := ⟨w.heap.size, 1, none⟩) y1).trans p1
  have p2 := (hb7.cell (p := ⟨w.heap.size, 2, none⟩) y1).trans p2
  have y1 : w.heap.size < w7.heap.size := by have := hb7.size; omega
  have hR := below2 hR hb7
  have hsl := hsl.kept hb7
  clear hb7
  go_wp2_with fail
  refine (cDL _).mono ?_
  rintro e w8 ⟨aX, cX', rfl, slX, hb8⟩
  have p0 := (hb8.cell (p := ⟨w.heap.size, 0, none⟩) y1).trans p0
  have p1 := (hb8.cell (p := ⟨w.heap.size, 1, none⟩) y1).trans p1
  have p2 := (hb8.cell (p := ⟨w.heap.size, 2, none⟩) y1).trans p2
  have y1 : w.heap.size < w8.heap.size := by have := hb8.size; omega
  have hR := below2 hR hb8
  have hsl := hsl.kept hb8
  clear hb8
  go_wp2_with fail
  refine (cKL aX cX' _ slX hsl).mono ?_
  rintro e w9 ⟨rfl, hb9⟩
  have p0 := (hb9.cell (p := ⟨w.heap.size, 0, none⟩) y1).trans p0
  have p1 := (hb9.cell (p := ⟨w.heap.size, 1, none⟩) y1).trans p1
  have p2 := (hb9.cell (p := ⟨w.heap.size, 2, none⟩) y1).trans p2
  have y1 : w.heap.size < w9.heap.size := by have := hb9.size; omega
  have hR := below2 hR hb9
  have hsl := hsl.kept hb9
  clear hb9
  go_wp2_with fail
  refine (cDs _).mono ?_
  rintro e w10 ⟨rfl, hb10⟩
  have p0 := (hb10.cell (p := ⟨w.heap.size, 0, none⟩) y1).trans p0
  have p1 := (hb10.cell (p := ⟨w.heap.size, 1, none⟩) y1).trans p1
  have p2 := (hb10.cell (p := ⟨w.heap.size, 2, none⟩) y1).trans p2
  have y1 : w.heap.size < w10.heap.size := by have := hb10.size; omega
  have hR := below2 hR hb10
  have hsl := hsl.kept hb10
  clear hb10
  obtain ⟨W, hW⟩ : ∃ W, W = w10.alloc (.cells #[.int .i64 xk, .int .i64 xn, .string xs] 23) := ⟨_, rfl⟩
  have hR : Below w.heap.size w W := by rw [hW]; exact below2 hR (below_alloc1 w10 _)
  obtain ⟨x0, x1, x2⟩ : B3 W w10.heap.size ⟨xk, xn, xs⟩ := by rw [hW]; exact B3.new w10 ⟨xk, xn, xs⟩ _ rfl
  simp only at x0 x1 x2
  have y2 : w10.heap.size < W.heap.size := by rw [hW]; simp
  clear p0 p1 p2 y1 hsl
  go_wp2_with fail
  rw [← hW]
  clear hW
  go_region_held3 (fun W => W.cell? ⟨w10.heap.size, 0, none⟩ = some (.int .i64 xk) ∧ W.cell? ⟨w10.heap.size, 1, none⟩ = some (.int .i64 xn) ∧ W.cell? ⟨w10.heap.size, 2, none⟩ = some (.string xs))
    (first | exact ⟨(hB.cell (p := ⟨w10.heap.size, 0, none⟩) y2).trans x0, (hB.cell (p := ⟨w10.heap.size, 1, none⟩) y2).trans x1, (hB.cell (p := ⟨w10.heap.size, 2, none⟩) y2).trans x2⟩ | go_keep)
    ((go_at_call 19; refine (cX _).mono ?_; rintro e wA ⟨rfl, hbA⟩; have hB := drew_below hbA))
  have hR := below2 hR hB
  clear hB x0 x1 x2 y2
  go_wp2_with fail
  refine (cLs _).mono ?_
  rintro e w50 ⟨aK, cK, rfl, slK, hb50⟩
  have hR := below2 hR hb50
  clear hb50
  go_wp2_with fail
  refine (vwakes_any _).mono ?_
  rintro e w99 ⟨rfl, hb99⟩
  go_wp2_with fail
  go_ret
  exact ⟨rfl, below2 hR hb99⟩

set_option maxHeartbeats 4000000 in
set_option maxRecDepth 100000 in
theorem back_w15 (v : V) (L : List Pr) (a : Option Addr) (cap : Nat) (s : ByteArray) (w : World) (hsl : Sl w a L) (hcap : a = none → cap = 0) (hN : ∀ p ∈ L, -9223372036854775808 ≤ p.v.n ∧ p.v.n ≤ 9223372036854775807) (hn : -9223372036854775808 ≤ v.n ∧ v.n ≤ 9223372036854775807) (h0 : ¬ 5000 < v.s.size) (h1 : largeL L = false) (h2 : ¬ (100000 : Int) < (s.size : Int)) (hA : encV v ≠ []) (hB : propsB L = true) (hC : (decV s 0).2.2 = true) (hD : (decL s 0).2.2 = true) :
    Calls Try.prog 7 #[v.val, .slice a L.length cap, .string s] w fun e w' => e = .returned (.bool true) ∧ Below w.heap.size w w' := by
  have h60 := (largeL_no h1).1
  have lv := fun w => largeValue_any v w _ (decide_eq_false h0)
  have cL := fun w h => largeProps_any L a cap w h
  rw [h1] at cL
  have cV := fun w => encode_any v w hn
  have cF := fun w h => few_any L a cap w h hcap (by omega)
  have cE := fun a' c' w h => encProps_any L a' c' w h hN
  have cDs := fun w => decode_any s 0 w (by omega)
  have cLs := fun w => decodeProps_any s 0 w (by omega)
  have hE := decV_enc (ba (encV v ++ [120])) 0 v [120] (by rw [List.drop_zero, data_ba]) hA hn
  rw [show ((0 : Nat) : Int) = 0 from rfl] at hE
  have hle := encV_le v
  have cDv := fun w => decode_any (ba (encV v ++ [120])) 0 w (by rw [ba_len, List.length_append, List.length_singleton]; omega)
  rw [hE, ← ba_len (encV v)] at cDv
  simp only [gotW] at cDv
  have hadd : ∀ W, (Op.stringOp .add (ba (encV v)) ⟨#[120]⟩).run Try.prog W = .ok (.string (ba (encV v ++ [120]))) W := fun W => run_add_ba (encV v) [120] (by rw [List.length_singleton]; omega) W
  have hT := list_some (ba (encV v)) (by rw [ba_len]; exact fun h => hA (List.eq_nil_of_length_eq_zero h))
  have cKv := fun w => keepValue_any v v w
  rw [eqV_refl] at cKv
  clear hE hle hA
  generalize ba (encV v ++ [120]) = T1 at *
  generalize ba (encV v) = T at *
  have hE2 := decL_enc (ba ([120] ++ encL L)) 1 L [] (by rw [data_ba, List.append_nil]; rfl) hB hN
  rw [show ((1 : Nat) : Int) = 1 from rfl] at hE2
  have hle2 := encL_le hB
  have cDL := fun w => decodeProps_any (ba ([120] ++ encL L)) 1 w (by rw [ba_len, List.length_append, List.length_singleton]; omega)
  rw [hE2, ← ba_len (encL L)] at cDL
  have hadd2 : ∀ W, (Op.stringOp .add ⟨#[120]⟩ (ba (encL L))).run Try.prog W = .ok (.string (ba ([120] ++ encL L))) W := fun W => run_add_ba [120] (encL L) (by rw [List.length_singleton]; omega) W
  rw [show encR L = (ba (encL L), 0) by unfold encR; rw [if_pos hB]] at cE
  have cKL := fun aX cX w h h' => keepProps_any L aX a cX cap w h h' (by omega)
  clear hE2 hle2 hB
  generalize ba ([120] ++ encL L) = U1 at *
  generalize ba (encL L) = U at *
  simp only at cDL cE
  obtain ⟨_, _, hc3, _, hc5, hc6⟩ := decV_in s 0 hC
  have hct := decV_took s 0 (by exact hC)
  rw [show ((0 : Nat) : Int) = 0 from rfl, List.drop_zero] at hct
  have cX := fun w => encode_any (decV s 0).1 w ⟨hc5, hc6⟩
  have hcut : ∀ W : World, (Instr.slice 9 (.string s) none (some (.int .i64 ((decV s 0).2.1 : Int))) none).run Try.prog W = .ok (.string (ba (encV (decV s 0).1))) W := by
    intro W
    rw [hct, ← cut_first]
    have := run_slice_string_h (P := Try.prog) (w := W) (t := 9) (s := s) Try.underlying9 .i64 ((decV s 0).2.1 : Int) (by omega) (by rw [show (0 : Int).toNat = 0 from rfl] at hc3; omega)
    simpa using this
  clear hct hc3 hc5 hc6
  generalize decV s 0 = d at *
  obtain ⟨⟨xk, xn, xs⟩, xz, xok⟩ := d
  simp only at hC
  subst hC
  simp only [gotW] at *
  generalize ba (encV ⟨xk, xn, xs⟩) = X at *
  obtain ⟨hd1, hd2, hd3, hd4⟩ := decL_took s 0 (by exact hD)
  rw [show ((0 : Nat) : Int) = 0 from rfl] at hd1 hd2 hd3 hd4
  rw [List.drop_zero] at hd2
  have cEK := fun a' c' w h => encProps_any (decL s 0).1 a' c' w h (fun p hp => ⟨(hd4 p hp).c, (hd4 p hp).d⟩)
  rw [show encR (decL s 0).1 = (ba (encL (decL s 0).1), 0) by unfold encR; rw [if_pos hd1]] at cEK
  have hcut2 : ∀ W : World, (Instr.slice 9 (.string s) none (some (.int .i64 ((decL s 0).2.1 : Int))) none).run Try.prog W = .ok (.string (ba (encL (decL s 0).1))) W := by
    intro W
    rw [hd2, ← cut_first]
    have := run_slice_string_h (P := Try.prog) (w := W) (t := 9) (s := s) Try.underlying9 .i64 ((decL s 0).2.1 : Int) (by omega) (by omega)
    simpa using this
  clear hd1 hd2 hd3 hd4
  generalize decL s 0 = k at *
  obtain ⟨Kl, kz, kok⟩ := k
  simp only at hD
  subst hD
  simp only at *
  generalize ba (encL Kl) = Y at *
  clear hN hn h0 h1 hcap h60
  have hsl := hsl.kept (below_alloc1 w (.cells #[.int .i64 v.k, .int .i64 v.n, .string v.s] 23))
  obtain ⟨p0, p1, p2⟩ := B3.new w v 23 rfl
  have hR := below_alloc1 w (.cells #[.int .i64 v.k, .int .i64 v.n, .string v.s] 23)
  have y1 : w.heap.size < (w.alloc (.cells #[.int .i64 v.k, .int .i64 v.n, .string v.s] 23)).heap.size := by simp
  obtain ⟨ak, an, sa⟩ := v
  simp only [V.val] at *
  go_enter Try.func7, Try.ntmps7
  go_wp2_with fail
  refine (lv _).mono ?_
  rintro e w1 ⟨rfl, hb1⟩
  have p0 := (hb1.cell (p := ⟨w.heap.size, 0, none⟩) y1).trans p0
  have p1 := (hb1.cell (p := ⟨w.heap.size, 1, none⟩) y1).trans p1
  have p2 := (hb1.cell (p := ⟨w.heap.size, 2, none⟩) y1).trans p2
  have y1 : w.heap.size < w1.heap.size := by have := hb1.size; omega
  have hR := below2 hR hb1
  have hsl := hsl.kept hb1
  clear hb1
  go_wp2_with fail
  refine (cL _ hsl).mono ?_
  rintro e w2 ⟨rfl, hb2⟩
  have p0 := (hb2.cell (p := ⟨w.heap.size, 0, none⟩) y1).trans p0
  have p1 := (hb2.cell (p := ⟨w.heap.size, 1, none⟩) y1).trans p1
  have p2 := (hb2.cell (p := ⟨w.heap.size, 2, none⟩) y1).trans p2
  have y1 : w.heap.size < w2.heap.size := by have := hb2.size; omega
  have hR := below2 hR hb2
  have hsl := hsl.kept hb2
  clear hb2
  go_wp2_with fail
  refine (cV _).mono ?_
  rintro e w3 ⟨rfl, hb3⟩
  have p0 := (hb3.cell (p := ⟨w.heap.size, 0, none⟩) y1).trans p0
  have p1 := (hb3.cell (p := ⟨w.heap.size, 1, none⟩) y1).trans p1
  have p2 := (hb3.cell (p := ⟨w.heap.size, 2, none⟩) y1).trans p2
  have y1 : w.heap.size < w3.heap.size := by have := hb3.size; omega
  have hR := below2 hR hb3
  have hsl := hsl.kept hb3
  clear hb3
  go_wp2_with fail
  refine (cDv _).mono ?_
  rintro e w4 ⟨rfl, hb4⟩
  have p0 := (hb4.cell (p := ⟨w.heap.size, 0, none⟩) y1).trans p0
  have p1 := (hb4.cell (p := ⟨w.heap.size, 1, none⟩) y1).trans p1
  have p2 := (hb4.cell (p := ⟨w.heap.size, 2, none⟩) y1).trans p2
  have y1 : w.heap.size < w4.heap.size := by have := hb4.size; omega
  have hR := below2 hR hb4
  have hsl := hsl.kept hb4
  clear hb4
  go_wp2_with fail
  refine (cKv _).mono ?_
  rintro e w5 ⟨rfl, hb5⟩
  have hb5 := below2 (below_alloc1 w4 _) hb5
  have p0 := (hb5.cell (p := ⟨w.heap.size, 0, none⟩) y1).trans p0
  have p1 := (hb5.cell (p := ⟨w.heap.size, 1, none⟩) y1).trans p1
  have p2 := (hb5.cell (p := ⟨w.heap.size, 2, none⟩) y1).trans p2
  have y1 : w.heap.size < w5.heap.size := by have := hb5.size; omega
  have hR := below2 hR hb5
  have hsl := hsl.kept hb5
  clear hb5
  go_wp2_with fail
  refine (cF _ hsl).mono ?_
  rintro e w6 ⟨aF, cFc, rfl, slF, hb6⟩
  have p0 := (hb6.cell (p := ⟨w.heap.size, 0, none⟩) y1).trans p0
  have p1 := (hb6.cell (p := ⟨w.heap.size, 1, none⟩) y1).trans p1
  have p2 := (hb6.cell (p := ⟨w.heap.size, 2, none⟩) y1).trans p2
  have y1 : w.heap.size < w6.heap.size := by have := hb6.size; omega
  have hR := below2 hR hb6
  have hsl := hsl.kept hb6
  clear hb6
  go_wp2_with fail
  refine (cE aF cFc _ slF).mono ?_
  rintro e w7 ⟨rfl, hb7⟩
  have p0 := (hb7.cell (p := ⟨w.heap.size, 0, none⟩) y1).trans p0
  have p1 := (hb7.cell (p := ⟨w.heap.size, 1, none⟩) y1).trans p1
  have p2 := (hb7.cell (p := ⟨w.heap.size, 2, none⟩) y1).trans p2
  have y1 : w.heap.size < w7.heap.size := by have := hb7.size; omega
  have hR := below2 hR hb7
  have hsl := hsl.kept hb7
  clear hb7
  go_wp2_with fail
  refine (cDL _).mono ?_
  rintro e w8 ⟨aX, cX', rfl, slX, hb8⟩
  have p0 := (hb8.cell (p := ⟨w.heap.size, 0, none⟩) y1).trans p0
  have p1 := (hb8.cell (p := ⟨w.heap.size, 1, none⟩) y1).trans p1
  have p2 := (hb8.cell (p := ⟨w.heap.size, 2, none⟩) y1).trans p2
  have y1 : w.heap.size < w8.heap.size := by have := hb8.size; omega
  have hR := below2 hR hb8
  have hsl := hsl.kept hb8
  clear hb8
  go_wp2_with fail
  refine (cKL aX cX' _ slX hsl).mono ?_
  rintro e w9 ⟨rfl, hb9⟩
  have p0 := (hb9.cell (p := ⟨w.heap.size, 0, none⟩) y1).trans p0
  have p1 := (hb9.cell (p := ⟨w.heap.size, 1, none⟩) y1).trans p1
  have p2 := (hb9.cell (p := ⟨w.heap.size, 2, none⟩) y1).trans p2
  have y1 : w.heap.size < w9.heap.size := by have := hb9.size; omega
  have hR := below2 hR hb9
  have hsl := hsl.kept hb9
  clear hb9
  go_wp2_with fail
  refine (cDs _).mono ?_
  rintro e w10 ⟨rfl, hb10⟩
  have p0 := (hb10.cell (p := ⟨w.heap.size, 0, none⟩) y1).trans p0
  have p1 := (hb10.cell (p := ⟨w.heap.size, 1, none⟩) y1).trans p1
  have p2 := (hb10.cell (p := ⟨w.heap.size, 2, none⟩) y1).trans p2
  have y1 : w.heap.size < w10.heap.size := by have := hb10.size; omega
  have hR := below2 hR hb10
  have hsl := hsl.kept hb10
  clear hb10
  obtain ⟨W, hW⟩ : ∃ W, W = w10.alloc (.cells #[.int .i64 xk, .int .i64 xn, .string xs] 23) := ⟨_, rfl⟩
  have hR : Below w.heap.size w W := by rw [hW]; exact below2 hR (below_alloc1 w10 _)
  obtain ⟨x0, x1, x2⟩ : B3 W w10.heap.size ⟨xk, xn, xs⟩ := by rw [hW]; exact B3.new w10 ⟨xk, xn, xs⟩ _ rfl
  simp only at x0 x1 x2
  have y2 : w10.heap.size < W.heap.size := by rw [hW]; simp
  clear p0 p1 p2 y1 hsl
  go_wp2_with fail
  rw [← hW]
  clear hW
  go_region_held3 (fun W => W.cell? ⟨w10.heap.size, 0, none⟩ = some (.int .i64 xk) ∧ W.cell? ⟨w10.heap.size, 1, none⟩ = some (.int .i64 xn) ∧ W.cell? ⟨w10.heap.size, 2, none⟩ = some (.string xs))
    (first | exact ⟨(hB.cell (p := ⟨w10.heap.size, 0, none⟩) y2).trans x0, (hB.cell (p := ⟨w10.heap.size, 1, none⟩) y2).trans x1, (hB.cell (p := ⟨w10.heap.size, 2, none⟩) y2).trans x2⟩ | go_keep)
    ((go_at_call 19; refine (cX _).mono ?_; rintro e wA ⟨rfl, hbA⟩; have hB := drew_below hbA))
  have hR := below2 hR hB
  clear hB x0 x1 x2 y2
  go_wp2_with fail
  refine (cLs _).mono ?_
  rintro e w50 ⟨aK, cK, rfl, slK, hb50⟩
  have hR := below2 hR hb50
  clear hb50
  go_wp2_with fail
  refine (cEK aK cK _ slK).mono ?_
  rintro e w51 ⟨rfl, hb51⟩
  have hR := below2 hR hb51
  clear hb51
  go_wp2_with fail
  refine (vwakes_any _).mono ?_
  rintro e w99 ⟨rfl, hb99⟩
  go_wp2_with fail
  go_ret
  exact ⟨rfl, below2 hR hb99⟩

end Go.Proofs.Ytndbhalkhejgjaa
end

section
namespace Go.Proofs.Ytndbhalkhejgjaa
open Go.RowKit

theorem vback_any (v : V) (L : List Pr) (a : Option Addr) (cap : Nat) (s : ByteArray) (w : World) (hsl : Sl w a L) (hcap : a = none → cap = 0) (hN : ∀ p ∈ L, -9223372036854775808 ≤ p.v.n ∧ p.v.n ≤ 9223372036854775807) (hn : -9223372036854775808 ≤ v.n ∧ v.n ≤ 9223372036854775807) :
    Calls Try.prog 7 #[v.val, .slice a L.length cap, .string s] w fun e w' => e = .returned (.bool true) ∧ Below w.heap.size w w' := by
  by_cases h0 : 5000 < v.s.size
  · exact back_1 v L a cap s w hsl h0
  · cases h1 : largeL L with
    | true => exact back_2 v L a cap s w hsl h0 h1
    | false =>
      by_cases h2 : (100000 : Int) < (s.size : Int)
      · exact back_3 v L a cap s w hsl h0 h1 h2
      · by_cases hA : encV v = []
        · cases hB : propsB L <;> cases hC : (decV s 0).2.2 <;> cases hD : (decL s 0).2.2
          · exact back_w0 v L a cap s w hsl hcap hN hn h0 h1 h2 hA hB hC hD
          · exact back_w1 v L a cap s w hsl hcap hN hn h0 h1 h2 hA hB hC hD
          · exact back_w2 v L a cap s w hsl hcap hN hn h0 h1 h2 hA hB hC hD
          · exact back_w3 v L a cap s w hsl hcap hN hn h0 h1 h2 hA hB hC hD
          · exact back_w4 v L a cap s w hsl hcap hN hn h0 h1 h2 hA hB hC hD
          · exact back_w5 v L a cap s w hsl hcap hN hn h0 h1 h2 hA hB hC hD
          · exact back_w6 v L a cap s w hsl hcap hN hn h0 h1 h2 hA hB hC hD
          · exact back_w7 v L a cap s w hsl hcap hN hn h0 h1 h2 hA hB hC hD
        · cases hB : propsB L <;> cases hC : (decV s 0).2.2 <;> cases hD : (decL s 0).2.2
          · exact back_w8 v L a cap s w hsl hcap hN hn h0 h1 h2 hA hB hC hD
          · exact back_w9 v L a cap s w hsl hcap hN hn h0 h1 h2 hA hB hC hD
          · exact back_w10 v L a cap s w hsl hcap hN hn h0 h1 h2 hA hB hC hD
          · exact back_w11 v L a cap s w hsl hcap hN hn h0 h1 h2 hA hB hC hD
          · exact back_w12 v L a cap s w hsl hcap hN hn h0 h1 h2 hA hB hC hD
          · exact back_w13 v L a cap s w hsl hcap hN hn h0 h1 h2 hA hB hC hD
          · exact back_w14 v L a cap s w hsl hcap hN hn h0 h1 h2 hA hB hC hD
          · exact back_w15 v L a cap s w hsl hcap hN hn h0 h1 h2 hA hB hC hD

set_option maxRecDepth 100000 in
theorem vback_open (v0 v1 : Value) (s : ByteArray) (W : World) {H : Type} {enc : TypeId × Value → H} {base : Nat} {d0 d1 : DataW H} {p0 p1 : List MemPlace}
    (hv0 : Value.okWide Try.prog W .any base 23 v0) (h0 : DataW.Trod enc Try.prog W 0 (fun _ => true) true 23 v0 d0 p0)
    (hv1 : Value.okWide Try.prog W .any base 37 v1) (h1 : DataW.Trod enc Try.prog W 0 (fun _ => true) true 37 v1 d1 p1) (_hs : s.size ≤ maxLen) :
    Calls Try.prog 7 #[v0, v1, .string s] W fun e w' => e = .returned (.bool true) ∧ Below W.heap.size W w' := by
  obtain ⟨v, rfl, hok0, _⟩ := open_value hv0 h0
  obtain ⟨a, L, cap, rfl, hsl, hok, _, hcap⟩ := open_props hv1 h1
  exact vback_any v L a cap s W hsl hcap (fun p hp => ⟨(hok p hp).1.n0, (hok p hp).1.n1⟩) ⟨hok0.n0, hok0.n1⟩

end Go.Proofs.Ytndbhalkhejgjaa
end

section
namespace Go.Proofs.Ytndbhalkhejgjaa.valBack
open Go.ChangeShapes Go.WideShapes Go.ChangeAt Go.RowKit
open Go.ChangeMaps (open_string shut_string)

theorem own : ownKnob Try.prog.godebug = none := by kernel_rfl
theorem laidOut : laidOutB Try.prog = true := by kernel_rfl

set_option maxRecDepth 100000 in
theorem lifted (os : Os) (started : os.Started) (H : Type) (enc : TypeId × Value → H) :
    ReturnsInHanded {} Try.checked os 7 .any (Rows.valBackSpec.pre6 enc Try.prog Try.f7 Rows.valBackRow.domain false) (Rows.valBackSpec.post enc Try.prog Try.f7 false true false false) := by
  refine returnsInHanded_of_change (C := Try.checked) own started (by kernel_rfl) Try.func7
    (ChangeSpec.witness6 (enc := enc) (C := Try.checked) false ⟨#[], #[.agg #[.int .i64 0,.int .i64 0,.string ByteArray.empty], .slice none 0 0, .string ByteArray.empty], []⟩ 8 (by kernel_rfl) (by kernel_rfl) (by kernel_rfl) (by kernel_rfl)) ?_
  intro W base args ds gs before hval0 hW hcnd _
  have hval : ∀ (j : Nat) t v, Try.f7.params[j]? = some t → args[j]? = some v → Value.okWide Try.prog W .any base t v := hval0
  have hW' := hW
  obtain ⟨p, q, hA0, hV, rfl, hfz, hnd⟩ := hW
  have hA : DataW.TrodAll enc Try.prog W 0 (fun _ => true) true Try.f7.params.toList args.toList ds p := hA0
  rw [Try.params7] at hA hval
  obtain ⟨v0, vs0, d0, ds0, p0, q0, hargs, rfl, rfl, h0, r0⟩ := trodAll_cons hA
  obtain ⟨v1, vs1, d1, ds1, p1, q1, rfl, rfl, rfl, h1, r1⟩ := trodAll_cons r0
  obtain ⟨v2, vs2, d2, ds2, p2, q2, rfl, rfl, rfl, h2, r2⟩ := trodAll_cons r1
  obtain ⟨rfl, rfl, rfl⟩ := trodAll_nil r2
  obtain rfl : args = #[v0, v1, v2] := by cases args; simp_all
  obtain ⟨rfl, rfl⟩ := trodVars_none hV
  have k0 := h0
  have lt0 : ∀ x ∈ p0, x.block < W.heap.size := by obtain ⟨m, hm⟩ := k0; exact DataW.trod_lt m _ _ _ hm
  have k1 := h1
  have lt1 : ∀ x ∈ p1, x.block < W.heap.size := by obtain ⟨m, hm⟩ := k1; exact DataW.trod_lt m _ _ _ hm
  obtain ⟨a2, rfl, rfl, rfl, w2⟩ := open_string Try.underlying9 (hval 2 9 v2 rfl rfl) h2
  clear hA0 hval0
  refine (vback_open v0 v1 a2 W (hval 0 23 v0 rfl rfl) h0 (hval 1 37 v1 rfl rfl) h1 w2).mono fun e W' ⟨he, bel⟩ => ?_
  subst he
  exact ⟨_, rfl, _, _, _, [], _, [], hW', trodAll_mk1 (shut_bool Try.underlying4 _), (trodAll_cons_mk (Below.trod laidOut (by kernel_rfl) (of_decide_eq_true (by kernel_rfl)) k0 bel lt0) (trodAll_cons_mk (Below.trod laidOut (by kernel_rfl) (of_decide_eq_true (by kernel_rfl)) k1 bel lt1) (trodAll_cons_mk (shut_string Try.underlying9 w2) trodAll_mk0))), rfl, bel.frame _, fun h => by cases h⟩

theorem over : Rows.valBackRow.holds Try.pinned (OpenSpec.ofChange Rows.valBackSpec) :=
  OpenClaim.holds_of_wide 7 Try.f7 rfl rfl rfl rfl rfl rfl rfl ⟨rfl, rfl, rfl, rfl, rfl⟩ rfl rfl rfl rfl rfl (by kernel_rfl) Try.func7 (by kernel_rfl)
    (of_decide_eq_true (by kernel_rfl)) (by unfold Func.isWrapper; first | (rw [if_pos (by decide +kernel)]; kernel_rfl) | (rw [if_neg (by decide +kernel)]; exact ⟨rfl, rfl⟩))
    (fun os started H enc _ => lifted os started H enc)

end Go.Proofs.Ytndbhalkhejgjaa.valBack
namespace Go.Proofs.Ytndbhalkhejgjaa
theorem valBack_holds : Rows.ValBackSaid := valBack.over
#print axioms valBack_holds
end Go.Proofs.Ytndbhalkhejgjaa
end

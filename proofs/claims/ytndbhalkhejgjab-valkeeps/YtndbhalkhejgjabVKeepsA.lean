/- ValKeeps: lists, texts too long; lists, names, values that are not good. -/
import Derived.Test.YtndbhalkhejgjabVTurnsA
import Derived.Test.YtndbhalkhejgjabVKeep
import Derived.Test.YtndbhalkhejgjabVPropsR
namespace Go.Proofs.Ytndbhalkhejgjab
open Go.RowKit
attribute [local go_sem ↓] Go.wp_at_zero Go.wp_at_succ

/-- The world behind the two boxes, and a draw. -/
def keepsW (w : World) (s0 s1 : ByteArray) (v : V) : World := ((w.alloc (.cells #[.string s0, .string s1] 23)).alloc (.cells #[.int .i64 v.k, .int .i64 v.n, .string v.s] 25)).drew

theorem keepsW_facts (w : World) (s0 s1 : ByteArray) (v : V) : Below w.heap.size w (keepsW w s0 s1 v) ∧ C3 (keepsW w s0 s1 v) (w.heap.size + 1) v ∧ w.heap.size + 1 < (keepsW w s0 s1 v).heap.size := by
  unfold keepsW
  refine ⟨(below2 (below_alloc1 w _) (below_alloc1 _ _)).drew, ?_, ?_⟩
  · exact (C3.new (w.alloc (.cells #[.string s0, .string s1] 23)) v 25 (by simp)).kept (Below.refl (w.heap.size + 2) _).drew (by simp)
  · simp

set_option maxHeartbeats 1600000 in
set_option maxRecDepth 100000 in
theorem keeps_1 (cW : Wakes) (L : List Pr) (a : Option Addr) (cap : Nat) (s0 s1 : ByteArray) (v : V) (w : World) (hsl : Sl w a L) (h0 : largeL L = true) :
    Calls Try.prog 3 #[.slice a L.length cap, .agg #[.string s0, .string s1], v.val] w fun e w' => e = .returned (.bool true) ∧ Below w.heap.size w w' := by
  have cL := fun w h => largeProps_any L a cap w h
  rw [h0] at cL
  clear h0 
  obtain ⟨hR, ⟨p0, p1, p2⟩, y1⟩ := keepsW_facts w s0 s1 v
  obtain ⟨W0, hW0⟩ : ∃ W0, W0 = keepsW w s0 s1 v := ⟨_, rfl⟩
  rw [← hW0] at hR p0 p1 p2 y1
  simp only [keepsW] at hW0
  have hsl := hsl.kept hR
  obtain ⟨ak, an, sa⟩ := v
  simp only [V.val] at *
  go_enter Try.func3, Try.ntmps3
  go_wp2_with fail
  go_region
  rw [← hW0]
  clear hW0
  go_wp2_with fail
  refine (cL _ hsl).mono ?_
  rintro e w1 ⟨rfl, hb1⟩
  have p0 := (hb1.cell (p := ⟨w.heap.size + 1, 0, none⟩) y1).trans p0
  have p1 := (hb1.cell (p := ⟨w.heap.size + 1, 1, none⟩) y1).trans p1
  have p2 := (hb1.cell (p := ⟨w.heap.size + 1, 2, none⟩) y1).trans p2
  have y1 : w.heap.size + 1 < w1.heap.size := by have := hb1.size; omega
  have hR := below2 hR hb1
  have hsl := hsl.kept hb1
  clear hb1
  clear cL
  go_wp2_with fail
  refine (cW _).mono ?_
  rintro e w9 ⟨rfl, hb9⟩
  go_wp2_with fail
  go_ret
  exact ⟨rfl, below2 hR hb9⟩

set_option maxHeartbeats 1600000 in
set_option maxRecDepth 100000 in
theorem keeps_2 (cW : Wakes) (L : List Pr) (a : Option Addr) (cap : Nat) (s0 s1 : ByteArray) (v : V) (w : World) (hsl : Sl w a L) (h0 : largeL L = false) (h1 : (1000 : Int) < (s0.size : Int)) :
    Calls Try.prog 3 #[.slice a L.length cap, .agg #[.string s0, .string s1], v.val] w fun e w' => e = .returned (.bool true) ∧ Below w.heap.size w w' := by
  have cL := fun w h => largeProps_any L a cap w h
  rw [h0] at cL
  clear h0 
  obtain ⟨hR, ⟨p0, p1, p2⟩, y1⟩ := keepsW_facts w s0 s1 v
  obtain ⟨W0, hW0⟩ : ∃ W0, W0 = keepsW w s0 s1 v := ⟨_, rfl⟩
  rw [← hW0] at hR p0 p1 p2 y1
  simp only [keepsW] at hW0
  have hsl := hsl.kept hR
  obtain ⟨ak, an, sa⟩ := v
  simp only [V.val] at *
  go_enter Try.func3, Try.ntmps3
  go_wp2_with fail
  go_region
  rw [← hW0]
  clear hW0
  go_wp2_with fail
  refine (cL _ hsl).mono ?_
  rintro e w1 ⟨rfl, hb1⟩
  have p0 := (hb1.cell (p := ⟨w.heap.size + 1, 0, none⟩) y1).trans p0
  have p1 := (hb1.cell (p := ⟨w.heap.size + 1, 1, none⟩) y1).trans p1
  have p2 := (hb1.cell (p := ⟨w.heap.size + 1, 2, none⟩) y1).trans p2
  have y1 : w.heap.size + 1 < w1.heap.size := by have := hb1.size; omega
  have hR := below2 hR hb1
  have hsl := hsl.kept hb1
  clear hb1
  clear cL
  go_wp2_with fail
  refine (cW _).mono ?_
  rintro e w9 ⟨rfl, hb9⟩
  go_wp2_with fail
  go_ret
  exact ⟨rfl, below2 hR hb9⟩

set_option maxHeartbeats 1600000 in
set_option maxRecDepth 100000 in
theorem keeps_3 (cW : Wakes) (L : List Pr) (a : Option Addr) (cap : Nat) (s0 s1 : ByteArray) (v : V) (w : World) (hsl : Sl w a L) (h0 : largeL L = false) (h1 : ¬ (1000 : Int) < (s0.size : Int)) (h2 : (1000 : Int) < (s1.size : Int)) :
    Calls Try.prog 3 #[.slice a L.length cap, .agg #[.string s0, .string s1], v.val] w fun e w' => e = .returned (.bool true) ∧ Below w.heap.size w w' := by
  have cL := fun w h => largeProps_any L a cap w h
  rw [h0] at cL
  clear h0 
  obtain ⟨hR, ⟨p0, p1, p2⟩, y1⟩ := keepsW_facts w s0 s1 v
  obtain ⟨W0, hW0⟩ : ∃ W0, W0 = keepsW w s0 s1 v := ⟨_, rfl⟩
  rw [← hW0] at hR p0 p1 p2 y1
  simp only [keepsW] at hW0
  have hsl := hsl.kept hR
  obtain ⟨ak, an, sa⟩ := v
  simp only [V.val] at *
  go_enter Try.func3, Try.ntmps3
  go_wp2_with fail
  go_region
  rw [← hW0]
  clear hW0
  go_wp2_with fail
  refine (cL _ hsl).mono ?_
  rintro e w1 ⟨rfl, hb1⟩
  have p0 := (hb1.cell (p := ⟨w.heap.size + 1, 0, none⟩) y1).trans p0
  have p1 := (hb1.cell (p := ⟨w.heap.size + 1, 1, none⟩) y1).trans p1
  have p2 := (hb1.cell (p := ⟨w.heap.size + 1, 2, none⟩) y1).trans p2
  have y1 : w.heap.size + 1 < w1.heap.size := by have := hb1.size; omega
  have hR := below2 hR hb1
  have hsl := hsl.kept hb1
  clear hb1
  clear cL
  go_wp2_with fail
  refine (cW _).mono ?_
  rintro e w9 ⟨rfl, hb9⟩
  go_wp2_with fail
  go_ret
  exact ⟨rfl, below2 hR hb9⟩

set_option maxHeartbeats 1600000 in
set_option maxRecDepth 100000 in
theorem keeps_4 (cW : Wakes) (L : List Pr) (a : Option Addr) (cap : Nat) (s0 s1 : ByteArray) (v : V) (w : World) (hsl : Sl w a L) (h0 : largeL L = false) (h1 : ¬ (1000 : Int) < (s0.size : Int)) (h2 : ¬ (1000 : Int) < (s1.size : Int)) (h3 : 5000 < v.s.size) :
    Calls Try.prog 3 #[.slice a L.length cap, .agg #[.string s0, .string s1], v.val] w fun e w' => e = .returned (.bool true) ∧ Below w.heap.size w w' := by
  have cL := fun w h => largeProps_any L a cap w h
  rw [h0] at cL
  have lv := fun w => largeValue_any v w _ (decide_eq_true h3)
  clear h0 h3 
  obtain ⟨hR, ⟨p0, p1, p2⟩, y1⟩ := keepsW_facts w s0 s1 v
  obtain ⟨W0, hW0⟩ : ∃ W0, W0 = keepsW w s0 s1 v := ⟨_, rfl⟩
  rw [← hW0] at hR p0 p1 p2 y1
  simp only [keepsW] at hW0
  have hsl := hsl.kept hR
  obtain ⟨ak, an, sa⟩ := v
  simp only [V.val] at *
  go_enter Try.func3, Try.ntmps3
  go_wp2_with fail
  go_region
  rw [← hW0]
  clear hW0
  go_wp2_with fail
  refine (cL _ hsl).mono ?_
  rintro e w1 ⟨rfl, hb1⟩
  have p0 := (hb1.cell (p := ⟨w.heap.size + 1, 0, none⟩) y1).trans p0
  have p1 := (hb1.cell (p := ⟨w.heap.size + 1, 1, none⟩) y1).trans p1
  have p2 := (hb1.cell (p := ⟨w.heap.size + 1, 2, none⟩) y1).trans p2
  have y1 : w.heap.size + 1 < w1.heap.size := by have := hb1.size; omega
  have hR := below2 hR hb1
  have hsl := hsl.kept hb1
  clear hb1
  clear cL
  go_wp2_with fail
  refine (lv _).mono ?_
  rintro e w2 ⟨rfl, hb2⟩
  have p0 := (hb2.cell (p := ⟨w.heap.size + 1, 0, none⟩) y1).trans p0
  have p1 := (hb2.cell (p := ⟨w.heap.size + 1, 1, none⟩) y1).trans p1
  have p2 := (hb2.cell (p := ⟨w.heap.size + 1, 2, none⟩) y1).trans p2
  have y1 : w.heap.size + 1 < w2.heap.size := by have := hb2.size; omega
  have hR := below2 hR hb2
  have hsl := hsl.kept hb2
  clear hb2
  clear lv
  go_wp2_with fail
  refine (cW _).mono ?_
  rintro e w9 ⟨rfl, hb9⟩
  go_wp2_with fail
  go_ret
  exact ⟨rfl, below2 hR hb9⟩

set_option maxHeartbeats 1600000 in
set_option maxRecDepth 100000 in
theorem keeps_5 (cW : Wakes) (L : List Pr) (a : Option Addr) (cap : Nat) (s0 s1 : ByteArray) (v : V) (w : World) (hsl : Sl w a L) (h0 : largeL L = false) (h1 : ¬ (1000 : Int) < (s0.size : Int)) (h2 : ¬ (1000 : Int) < (s1.size : Int)) (h3 : ¬ 5000 < v.s.size) (hS : ∀ p ∈ L, smallP p) (h4 : propsB L = false) :
    Calls Try.prog 3 #[.slice a L.length cap, .agg #[.string s0, .string s1], v.val] w fun e w' => e = .returned (.bool true) ∧ Below w.heap.size w w' := by
  have cL := fun w h => largeProps_any L a cap w h
  rw [h0] at cL
  have lv := fun w => largeValue_any v w _ (decide_eq_false h3)
  have cP := fun w h => refProps_any L a cap w h hS
  rw [h4] at cP
  clear h0 h3 h4 
  clear hS
  obtain ⟨hR, ⟨p0, p1, p2⟩, y1⟩ := keepsW_facts w s0 s1 v
  obtain ⟨W0, hW0⟩ : ∃ W0, W0 = keepsW w s0 s1 v := ⟨_, rfl⟩
  rw [← hW0] at hR p0 p1 p2 y1
  simp only [keepsW] at hW0
  have hsl := hsl.kept hR
  obtain ⟨ak, an, sa⟩ := v
  simp only [V.val] at *
  go_enter Try.func3, Try.ntmps3
  go_wp2_with fail
  go_region
  rw [← hW0]
  clear hW0
  go_wp2_with fail
  refine (cL _ hsl).mono ?_
  rintro e w1 ⟨rfl, hb1⟩
  have p0 := (hb1.cell (p := ⟨w.heap.size + 1, 0, none⟩) y1).trans p0
  have p1 := (hb1.cell (p := ⟨w.heap.size + 1, 1, none⟩) y1).trans p1
  have p2 := (hb1.cell (p := ⟨w.heap.size + 1, 2, none⟩) y1).trans p2
  have y1 : w.heap.size + 1 < w1.heap.size := by have := hb1.size; omega
  have hR := below2 hR hb1
  have hsl := hsl.kept hb1
  clear hb1
  clear cL
  go_wp2_with fail
  refine (lv _).mono ?_
  rintro e w2 ⟨rfl, hb2⟩
  have p0 := (hb2.cell (p := ⟨w.heap.size + 1, 0, none⟩) y1).trans p0
  have p1 := (hb2.cell (p := ⟨w.heap.size + 1, 1, none⟩) y1).trans p1
  have p2 := (hb2.cell (p := ⟨w.heap.size + 1, 2, none⟩) y1).trans p2
  have y1 : w.heap.size + 1 < w2.heap.size := by have := hb2.size; omega
  have hR := below2 hR hb2
  have hsl := hsl.kept hb2
  clear hb2
  clear lv
  go_wp2_with fail
  refine (cP _ hsl).mono ?_
  rintro e w3 ⟨rfl, hb3⟩
  have p0 := (hb3.cell (p := ⟨w.heap.size + 1, 0, none⟩) y1).trans p0
  have p1 := (hb3.cell (p := ⟨w.heap.size + 1, 1, none⟩) y1).trans p1
  have p2 := (hb3.cell (p := ⟨w.heap.size + 1, 2, none⟩) y1).trans p2
  have y1 : w.heap.size + 1 < w3.heap.size := by have := hb3.size; omega
  have hR := below2 hR hb3
  have hsl := hsl.kept hb3
  clear hb3
  clear cP
  go_wp2_with fail
  refine (cW _).mono ?_
  rintro e w9 ⟨rfl, hb9⟩
  go_wp2_with fail
  go_ret
  exact ⟨rfl, below2 hR hb9⟩

set_option maxHeartbeats 1600000 in
set_option maxRecDepth 100000 in
theorem keeps_6 (cW : Wakes) (L : List Pr) (a : Option Addr) (cap : Nat) (s0 s1 : ByteArray) (v : V) (w : World) (hsl : Sl w a L) (h0 : largeL L = false) (h1 : ¬ (1000 : Int) < (s0.size : Int)) (h2 : ¬ (1000 : Int) < (s1.size : Int)) (h3 : ¬ 5000 < v.s.size) (hS : ∀ p ∈ L, smallP p) (h4 : propsB L = true) (h5 : nameB s0 = false) :
    Calls Try.prog 3 #[.slice a L.length cap, .agg #[.string s0, .string s1], v.val] w fun e w' => e = .returned (.bool true) ∧ Below w.heap.size w w' := by
  have cL := fun w h => largeProps_any L a cap w h
  rw [h0] at cL
  have lv := fun w => largeValue_any v w _ (decide_eq_false h3)
  have cP := fun w h => refProps_any L a cap w h hS
  rw [h4] at cP
  have cN := fun w => refName_any s0 w (by omega)
  rw [h5] at cN
  clear h0 h3 h4 h5 
  clear hS
  obtain ⟨hR, ⟨p0, p1, p2⟩, y1⟩ := keepsW_facts w s0 s1 v
  obtain ⟨W0, hW0⟩ : ∃ W0, W0 = keepsW w s0 s1 v := ⟨_, rfl⟩
  rw [← hW0] at hR p0 p1 p2 y1
  simp only [keepsW] at hW0
  have hsl := hsl.kept hR
  obtain ⟨ak, an, sa⟩ := v
  simp only [V.val] at *
  go_enter Try.func3, Try.ntmps3
  go_wp2_with fail
  go_region
  rw [← hW0]
  clear hW0
  go_wp2_with fail
  refine (cL _ hsl).mono ?_
  rintro e w1 ⟨rfl, hb1⟩
  have p0 := (hb1.cell (p := ⟨w.heap.size + 1, 0, none⟩) y1).trans p0
  have p1 := (hb1.cell (p := ⟨w.heap.size + 1, 1, none⟩) y1).trans p1
  have p2 := (hb1.cell (p := ⟨w.heap.size + 1, 2, none⟩) y1).trans p2
  have y1 : w.heap.size + 1 < w1.heap.size := by have := hb1.size; omega
  have hR := below2 hR hb1
  have hsl := hsl.kept hb1
  clear hb1
  clear cL
  go_wp2_with fail
  refine (lv _).mono ?_
  rintro e w2 ⟨rfl, hb2⟩
  have p0 := (hb2.cell (p := ⟨w.heap.size + 1, 0, none⟩) y1).trans p0
  have p1 := (hb2.cell (p := ⟨w.heap.size + 1, 1, none⟩) y1).trans p1
  have p2 := (hb2.cell (p := ⟨w.heap.size + 1, 2, none⟩) y1).trans p2
  have y1 : w.heap.size + 1 < w2.heap.size := by have := hb2.size; omega
  have hR := below2 hR hb2
  have hsl := hsl.kept hb2
  clear hb2
  clear lv
  go_wp2_with fail
  refine (cP _ hsl).mono ?_
  rintro e w3 ⟨rfl, hb3⟩
  have p0 := (hb3.cell (p := ⟨w.heap.size + 1, 0, none⟩) y1).trans p0
  have p1 := (hb3.cell (p := ⟨w.heap.size + 1, 1, none⟩) y1).trans p1
  have p2 := (hb3.cell (p := ⟨w.heap.size + 1, 2, none⟩) y1).trans p2
  have y1 : w.heap.size + 1 < w3.heap.size := by have := hb3.size; omega
  have hR := below2 hR hb3
  have hsl := hsl.kept hb3
  clear hb3
  clear cP
  go_wp2_with fail
  refine (cN _).mono ?_
  rintro e wN ⟨rfl, hN⟩
  subst hN
  clear cN
  go_wp2_with fail
  refine (cW _).mono ?_
  rintro e w9 ⟨rfl, hb9⟩
  go_wp2_with fail
  go_ret
  exact ⟨rfl, below2 hR hb9⟩

set_option maxHeartbeats 1600000 in
set_option maxRecDepth 100000 in
theorem keeps_7 (cW : Wakes) (L : List Pr) (a : Option Addr) (cap : Nat) (s0 s1 : ByteArray) (v : V) (w : World) (hsl : Sl w a L) (h0 : largeL L = false) (h1 : ¬ (1000 : Int) < (s0.size : Int)) (h2 : ¬ (1000 : Int) < (s1.size : Int)) (h3 : ¬ 5000 < v.s.size) (hS : ∀ p ∈ L, smallP p) (h4 : propsB L = true) (h5 : nameB s0 = true) (h6 : goodB v = false) :
    Calls Try.prog 3 #[.slice a L.length cap, .agg #[.string s0, .string s1], v.val] w fun e w' => e = .returned (.bool true) ∧ Below w.heap.size w w' := by
  have cL := fun w h => largeProps_any L a cap w h
  rw [h0] at cL
  have lv := fun w => largeValue_any v w _ (decide_eq_false h3)
  have cP := fun w h => refProps_any L a cap w h hS
  rw [h4] at cP
  have cN := fun w => refName_any s0 w (by omega)
  rw [h5] at cN
  have gv := fun w => refGood_any v w
  rw [h6] at gv
  clear h0 h3 h4 h5 h6 
  clear hS
  obtain ⟨hR, ⟨p0, p1, p2⟩, y1⟩ := keepsW_facts w s0 s1 v
  obtain ⟨W0, hW0⟩ : ∃ W0, W0 = keepsW w s0 s1 v := ⟨_, rfl⟩
  rw [← hW0] at hR p0 p1 p2 y1
  simp only [keepsW] at hW0
  have hsl := hsl.kept hR
  obtain ⟨ak, an, sa⟩ := v
  simp only [V.val] at *
  go_enter Try.func3, Try.ntmps3
  go_wp2_with fail
  go_region
  rw [← hW0]
  clear hW0
  go_wp2_with fail
  refine (cL _ hsl).mono ?_
  rintro e w1 ⟨rfl, hb1⟩
  have p0 := (hb1.cell (p := ⟨w.heap.size + 1, 0, none⟩) y1).trans p0
  have p1 := (hb1.cell (p := ⟨w.heap.size + 1, 1, none⟩) y1).trans p1
  have p2 := (hb1.cell (p := ⟨w.heap.size + 1, 2, none⟩) y1).trans p2
  have y1 : w.heap.size + 1 < w1.heap.size := by have := hb1.size; omega
  have hR := below2 hR hb1
  have hsl := hsl.kept hb1
  clear hb1
  clear cL
  go_wp2_with fail
  refine (lv _).mono ?_
  rintro e w2 ⟨rfl, hb2⟩
  have p0 := (hb2.cell (p := ⟨w.heap.size + 1, 0, none⟩) y1).trans p0
  have p1 := (hb2.cell (p := ⟨w.heap.size + 1, 1, none⟩) y1).trans p1
  have p2 := (hb2.cell (p := ⟨w.heap.size + 1, 2, none⟩) y1).trans p2
  have y1 : w.heap.size + 1 < w2.heap.size := by have := hb2.size; omega
  have hR := below2 hR hb2
  have hsl := hsl.kept hb2
  clear hb2
  clear lv
  go_wp2_with fail
  refine (cP _ hsl).mono ?_
  rintro e w3 ⟨rfl, hb3⟩
  have p0 := (hb3.cell (p := ⟨w.heap.size + 1, 0, none⟩) y1).trans p0
  have p1 := (hb3.cell (p := ⟨w.heap.size + 1, 1, none⟩) y1).trans p1
  have p2 := (hb3.cell (p := ⟨w.heap.size + 1, 2, none⟩) y1).trans p2
  have y1 : w.heap.size + 1 < w3.heap.size := by have := hb3.size; omega
  have hR := below2 hR hb3
  have hsl := hsl.kept hb3
  clear hb3
  clear cP
  go_wp2_with fail
  refine (cN _).mono ?_
  rintro e wN ⟨rfl, hN⟩
  subst hN
  clear cN
  go_wp2_with fail
  refine (gv _).mono ?_
  rintro e w5 ⟨rfl, hb5⟩
  have p0 := (hb5.cell (p := ⟨w.heap.size + 1, 0, none⟩) y1).trans p0
  have p1 := (hb5.cell (p := ⟨w.heap.size + 1, 1, none⟩) y1).trans p1
  have p2 := (hb5.cell (p := ⟨w.heap.size + 1, 2, none⟩) y1).trans p2
  have y1 : w.heap.size + 1 < w5.heap.size := by have := hb5.size; omega
  have hR := below2 hR hb5
  have hsl := hsl.kept hb5
  clear hb5
  clear gv
  go_wp2_with fail
  refine (cW _).mono ?_
  rintro e w9 ⟨rfl, hb9⟩
  go_wp2_with fail
  go_ret
  exact ⟨rfl, below2 hR hb9⟩

end Go.Proofs.Ytndbhalkhejgjab

/- ValTurns: texts too long, values that are not good. -/
import Derived.Test.YtndbhalkhejgjabVC3
import Derived.Test.YtndbhalkhejgjabVRef2
import Derived.Deep.RegionHeld3
namespace Go.Proofs.Ytndbhalkhejgjab
open Go.RowKit
attribute [local go_sem ↓] Go.wp_at_zero Go.wp_at_succ

/-- What the statements' own look says. -/
def Wakes : Prop := ∀ w, Calls Try.prog 10 #[] w fun e w' => e = .returned (.bool true) ∧ Below w.heap.size w w'

/-- The world behind the three boxes, and a draw. -/
def turnsW (w : World) (s0 s1 : ByteArray) (v x : V) : World := (((w.alloc (.cells #[.string s0, .string s1] 23)).alloc (.cells #[.int .i64 v.k, .int .i64 v.n, .string v.s] 25)).alloc (.cells #[.int .i64 x.k, .int .i64 x.n, .string x.s] 25)).drew

theorem turnsW_facts (w : World) (s0 s1 : ByteArray) (v x : V) : Below w.heap.size w (turnsW w s0 s1 v x) ∧ C3 (turnsW w s0 s1 v x) (w.heap.size + 1) v ∧ C3 (turnsW w s0 s1 v x) (w.heap.size + 2) x ∧ w.heap.size + 2 < (turnsW w s0 s1 v x).heap.size := by
  unfold turnsW
  refine ⟨(below3 (below_alloc1 w _) (below_alloc1 _ _) (below_alloc1 _ _)).drew, ?_, ?_, ?_⟩
  · exact (C3.new (w.alloc (.cells #[.string s0, .string s1] 23)) v 25 (by simp)).kept (below_alloc1 _ _).drew (by simp)
  · exact (C3.new _ x 25 (by simp)).kept (Below.refl (w.heap.size + 3) _).drew (by simp)
  · simp

set_option maxHeartbeats 1600000 in
set_option maxRecDepth 100000 in
theorem turns_1 (cW : Wakes) (s0 s1 : ByteArray) (v x : V) (w : World) (h0 : (1000 : Int) < (s0.size : Int)) :
    Calls Try.prog 4 #[.agg #[.string s0, .string s1], v.val, x.val] w fun e w' => e = .returned (.bool true) ∧ Below w.heap.size w w' := by
  obtain ⟨hR, ⟨p0, p1, p2⟩, ⟨q0, q1, q2⟩, z0⟩ := turnsW_facts w s0 s1 v x
  obtain ⟨W0, hW0⟩ : ∃ W0, W0 = turnsW w s0 s1 v x := ⟨_, rfl⟩
  rw [← hW0] at hR p0 p1 p2 q0 q1 q2 z0
  simp only [turnsW] at hW0
  have y1 : w.heap.size + 1 < W0.heap.size := by omega
  obtain ⟨ak, an, sa⟩ := v
  obtain ⟨xk, xn, sx⟩ := x
  simp only [V.val] at *
  go_enter Try.func4, Try.ntmps4
  go_wp2_with fail
  go_region
  rw [← hW0]
  clear hW0
  go_wp2_with fail
  refine (cW _).mono ?_
  rintro e w9 ⟨rfl, hb9⟩
  go_wp2_with fail
  go_ret
  exact ⟨rfl, below2 hR hb9⟩

set_option maxHeartbeats 1600000 in
set_option maxRecDepth 100000 in
theorem turns_2 (cW : Wakes) (s0 s1 : ByteArray) (v x : V) (w : World) (h0 : ¬ (1000 : Int) < (s0.size : Int)) (h1 : (1000 : Int) < (s1.size : Int)) :
    Calls Try.prog 4 #[.agg #[.string s0, .string s1], v.val, x.val] w fun e w' => e = .returned (.bool true) ∧ Below w.heap.size w w' := by
  obtain ⟨hR, ⟨p0, p1, p2⟩, ⟨q0, q1, q2⟩, z0⟩ := turnsW_facts w s0 s1 v x
  obtain ⟨W0, hW0⟩ : ∃ W0, W0 = turnsW w s0 s1 v x := ⟨_, rfl⟩
  rw [← hW0] at hR p0 p1 p2 q0 q1 q2 z0
  simp only [turnsW] at hW0
  have y1 : w.heap.size + 1 < W0.heap.size := by omega
  obtain ⟨ak, an, sa⟩ := v
  obtain ⟨xk, xn, sx⟩ := x
  simp only [V.val] at *
  go_enter Try.func4, Try.ntmps4
  go_wp2_with fail
  go_region
  rw [← hW0]
  clear hW0
  go_wp2_with fail
  refine (cW _).mono ?_
  rintro e w9 ⟨rfl, hb9⟩
  go_wp2_with fail
  go_ret
  exact ⟨rfl, below2 hR hb9⟩

set_option maxHeartbeats 1600000 in
set_option maxRecDepth 100000 in
theorem turns_3 (cW : Wakes) (s0 s1 : ByteArray) (v x : V) (w : World) (h0 : ¬ (1000 : Int) < (s0.size : Int)) (h1 : ¬ (1000 : Int) < (s1.size : Int)) (h2 : 5000 < v.s.size) :
    Calls Try.prog 4 #[.agg #[.string s0, .string s1], v.val, x.val] w fun e w' => e = .returned (.bool true) ∧ Below w.heap.size w w' := by
  have lv := fun w => largeValue_any v w _ (decide_eq_true h2)
  clear h2
  obtain ⟨hR, ⟨p0, p1, p2⟩, ⟨q0, q1, q2⟩, z0⟩ := turnsW_facts w s0 s1 v x
  obtain ⟨W0, hW0⟩ : ∃ W0, W0 = turnsW w s0 s1 v x := ⟨_, rfl⟩
  rw [← hW0] at hR p0 p1 p2 q0 q1 q2 z0
  simp only [turnsW] at hW0
  have y1 : w.heap.size + 1 < W0.heap.size := by omega
  obtain ⟨ak, an, sa⟩ := v
  obtain ⟨xk, xn, sx⟩ := x
  simp only [V.val] at *
  go_enter Try.func4, Try.ntmps4
  go_wp2_with fail
  go_region
  rw [← hW0]
  clear hW0
  go_wp2_with fail
  refine (lv _).mono ?_
  rintro e w1 ⟨rfl, hb1⟩
  have p0 := (hb1.cell (p := ⟨w.heap.size + 1, 0, none⟩) y1).trans p0
  have p1 := (hb1.cell (p := ⟨w.heap.size + 1, 1, none⟩) y1).trans p1
  have p2 := (hb1.cell (p := ⟨w.heap.size + 1, 2, none⟩) y1).trans p2
  have q0 := (hb1.cell (p := ⟨w.heap.size + 2, 0, none⟩) z0).trans q0
  have q1 := (hb1.cell (p := ⟨w.heap.size + 2, 1, none⟩) z0).trans q1
  have q2 := (hb1.cell (p := ⟨w.heap.size + 2, 2, none⟩) z0).trans q2
  have z0 : w.heap.size + 2 < w1.heap.size := by have := hb1.size; omega
  have y1 : w.heap.size + 1 < w1.heap.size := by omega
  have hR := below2 hR hb1
  clear hb1
  clear lv
  go_wp2_with fail
  refine (cW _).mono ?_
  rintro e w9 ⟨rfl, hb9⟩
  go_wp2_with fail
  go_ret
  exact ⟨rfl, below2 hR hb9⟩

set_option maxHeartbeats 1600000 in
set_option maxRecDepth 100000 in
theorem turns_4 (cW : Wakes) (s0 s1 : ByteArray) (v x : V) (w : World) (h0 : ¬ (1000 : Int) < (s0.size : Int)) (h1 : ¬ (1000 : Int) < (s1.size : Int)) (h2 : ¬ 5000 < v.s.size) (h3 : 5000 < x.s.size) :
    Calls Try.prog 4 #[.agg #[.string s0, .string s1], v.val, x.val] w fun e w' => e = .returned (.bool true) ∧ Below w.heap.size w w' := by
  have lv := fun w => largeValue_any v w _ (decide_eq_false h2)
  have lx := fun w => largeValue_any x w _ (decide_eq_true h3)
  clear h2
  clear h3
  obtain ⟨hR, ⟨p0, p1, p2⟩, ⟨q0, q1, q2⟩, z0⟩ := turnsW_facts w s0 s1 v x
  obtain ⟨W0, hW0⟩ : ∃ W0, W0 = turnsW w s0 s1 v x := ⟨_, rfl⟩
  rw [← hW0] at hR p0 p1 p2 q0 q1 q2 z0
  simp only [turnsW] at hW0
  have y1 : w.heap.size + 1 < W0.heap.size := by omega
  obtain ⟨ak, an, sa⟩ := v
  obtain ⟨xk, xn, sx⟩ := x
  simp only [V.val] at *
  go_enter Try.func4, Try.ntmps4
  go_wp2_with fail
  go_region
  rw [← hW0]
  clear hW0
  go_wp2_with fail
  refine (lv _).mono ?_
  rintro e w1 ⟨rfl, hb1⟩
  have p0 := (hb1.cell (p := ⟨w.heap.size + 1, 0, none⟩) y1).trans p0
  have p1 := (hb1.cell (p := ⟨w.heap.size + 1, 1, none⟩) y1).trans p1
  have p2 := (hb1.cell (p := ⟨w.heap.size + 1, 2, none⟩) y1).trans p2
  have q0 := (hb1.cell (p := ⟨w.heap.size + 2, 0, none⟩) z0).trans q0
  have q1 := (hb1.cell (p := ⟨w.heap.size + 2, 1, none⟩) z0).trans q1
  have q2 := (hb1.cell (p := ⟨w.heap.size + 2, 2, none⟩) z0).trans q2
  have z0 : w.heap.size + 2 < w1.heap.size := by have := hb1.size; omega
  have y1 : w.heap.size + 1 < w1.heap.size := by omega
  have hR := below2 hR hb1
  clear hb1
  clear lv
  go_wp2_with fail
  refine (lx _).mono ?_
  rintro e w2 ⟨rfl, hb2⟩
  have p0 := (hb2.cell (p := ⟨w.heap.size + 1, 0, none⟩) y1).trans p0
  have p1 := (hb2.cell (p := ⟨w.heap.size + 1, 1, none⟩) y1).trans p1
  have p2 := (hb2.cell (p := ⟨w.heap.size + 1, 2, none⟩) y1).trans p2
  have q0 := (hb2.cell (p := ⟨w.heap.size + 2, 0, none⟩) z0).trans q0
  have q1 := (hb2.cell (p := ⟨w.heap.size + 2, 1, none⟩) z0).trans q1
  have q2 := (hb2.cell (p := ⟨w.heap.size + 2, 2, none⟩) z0).trans q2
  have z0 : w.heap.size + 2 < w2.heap.size := by have := hb2.size; omega
  have y1 : w.heap.size + 1 < w2.heap.size := by omega
  have hR := below2 hR hb2
  clear hb2
  clear lx
  go_wp2_with fail
  refine (cW _).mono ?_
  rintro e w9 ⟨rfl, hb9⟩
  go_wp2_with fail
  go_ret
  exact ⟨rfl, below2 hR hb9⟩

set_option maxHeartbeats 1600000 in
set_option maxRecDepth 100000 in
theorem turns_5 (cW : Wakes) (s0 s1 : ByteArray) (v x : V) (w : World) (h0 : ¬ (1000 : Int) < (s0.size : Int)) (h1 : ¬ (1000 : Int) < (s1.size : Int)) (h2 : ¬ 5000 < v.s.size) (h3 : ¬ 5000 < x.s.size) (h4 : goodB v = false) :
    Calls Try.prog 4 #[.agg #[.string s0, .string s1], v.val, x.val] w fun e w' => e = .returned (.bool true) ∧ Below w.heap.size w w' := by
  have lv := fun w => largeValue_any v w _ (decide_eq_false h2)
  have lx := fun w => largeValue_any x w _ (decide_eq_false h3)
  have gv := fun w => refGood_any v w
  rw [h4] at gv
  clear h2
  clear h3
  clear h4
  obtain ⟨hR, ⟨p0, p1, p2⟩, ⟨q0, q1, q2⟩, z0⟩ := turnsW_facts w s0 s1 v x
  obtain ⟨W0, hW0⟩ : ∃ W0, W0 = turnsW w s0 s1 v x := ⟨_, rfl⟩
  rw [← hW0] at hR p0 p1 p2 q0 q1 q2 z0
  simp only [turnsW] at hW0
  have y1 : w.heap.size + 1 < W0.heap.size := by omega
  obtain ⟨ak, an, sa⟩ := v
  obtain ⟨xk, xn, sx⟩ := x
  simp only [V.val] at *
  go_enter Try.func4, Try.ntmps4
  go_wp2_with fail
  go_region
  rw [← hW0]
  clear hW0
  go_wp2_with fail
  refine (lv _).mono ?_
  rintro e w1 ⟨rfl, hb1⟩
  have p0 := (hb1.cell (p := ⟨w.heap.size + 1, 0, none⟩) y1).trans p0
  have p1 := (hb1.cell (p := ⟨w.heap.size + 1, 1, none⟩) y1).trans p1
  have p2 := (hb1.cell (p := ⟨w.heap.size + 1, 2, none⟩) y1).trans p2
  have q0 := (hb1.cell (p := ⟨w.heap.size + 2, 0, none⟩) z0).trans q0
  have q1 := (hb1.cell (p := ⟨w.heap.size + 2, 1, none⟩) z0).trans q1
  have q2 := (hb1.cell (p := ⟨w.heap.size + 2, 2, none⟩) z0).trans q2
  have z0 : w.heap.size + 2 < w1.heap.size := by have := hb1.size; omega
  have y1 : w.heap.size + 1 < w1.heap.size := by omega
  have hR := below2 hR hb1
  clear hb1
  clear lv
  go_wp2_with fail
  refine (lx _).mono ?_
  rintro e w2 ⟨rfl, hb2⟩
  have p0 := (hb2.cell (p := ⟨w.heap.size + 1, 0, none⟩) y1).trans p0
  have p1 := (hb2.cell (p := ⟨w.heap.size + 1, 1, none⟩) y1).trans p1
  have p2 := (hb2.cell (p := ⟨w.heap.size + 1, 2, none⟩) y1).trans p2
  have q0 := (hb2.cell (p := ⟨w.heap.size + 2, 0, none⟩) z0).trans q0
  have q1 := (hb2.cell (p := ⟨w.heap.size + 2, 1, none⟩) z0).trans q1
  have q2 := (hb2.cell (p := ⟨w.heap.size + 2, 2, none⟩) z0).trans q2
  have z0 : w.heap.size + 2 < w2.heap.size := by have := hb2.size; omega
  have y1 : w.heap.size + 1 < w2.heap.size := by omega
  have hR := below2 hR hb2
  clear hb2
  clear lx
  go_wp2_with fail
  refine (gv _).mono ?_
  rintro e w3 ⟨rfl, hb3⟩
  have p0 := (hb3.cell (p := ⟨w.heap.size + 1, 0, none⟩) y1).trans p0
  have p1 := (hb3.cell (p := ⟨w.heap.size + 1, 1, none⟩) y1).trans p1
  have p2 := (hb3.cell (p := ⟨w.heap.size + 1, 2, none⟩) y1).trans p2
  have q0 := (hb3.cell (p := ⟨w.heap.size + 2, 0, none⟩) z0).trans q0
  have q1 := (hb3.cell (p := ⟨w.heap.size + 2, 1, none⟩) z0).trans q1
  have q2 := (hb3.cell (p := ⟨w.heap.size + 2, 2, none⟩) z0).trans q2
  have z0 : w.heap.size + 2 < w3.heap.size := by have := hb3.size; omega
  have y1 : w.heap.size + 1 < w3.heap.size := by omega
  have hR := below2 hR hb3
  clear hb3
  clear gv
  go_wp2_with fail
  refine (cW _).mono ?_
  rintro e w9 ⟨rfl, hb9⟩
  go_wp2_with fail
  go_ret
  exact ⟨rfl, below2 hR hb9⟩

set_option maxHeartbeats 1600000 in
set_option maxRecDepth 100000 in
theorem turns_6 (cW : Wakes) (s0 s1 : ByteArray) (v x : V) (w : World) (h0 : ¬ (1000 : Int) < (s0.size : Int)) (h1 : ¬ (1000 : Int) < (s1.size : Int)) (h2 : ¬ 5000 < v.s.size) (h3 : ¬ 5000 < x.s.size) (h4 : goodB v = true) (h5 : goodB x = false) :
    Calls Try.prog 4 #[.agg #[.string s0, .string s1], v.val, x.val] w fun e w' => e = .returned (.bool true) ∧ Below w.heap.size w w' := by
  have lv := fun w => largeValue_any v w _ (decide_eq_false h2)
  have lx := fun w => largeValue_any x w _ (decide_eq_false h3)
  have gv := fun w => refGood_any v w
  have gx := fun w => refGood_any x w
  rw [h4] at gv
  rw [h5] at gx
  clear h2
  clear h3
  clear h4
  clear h5
  obtain ⟨hR, ⟨p0, p1, p2⟩, ⟨q0, q1, q2⟩, z0⟩ := turnsW_facts w s0 s1 v x
  obtain ⟨W0, hW0⟩ : ∃ W0, W0 = turnsW w s0 s1 v x := ⟨_, rfl⟩
  rw [← hW0] at hR p0 p1 p2 q0 q1 q2 z0
  simp only [turnsW] at hW0
  have y1 : w.heap.size + 1 < W0.heap.size := by omega
  obtain ⟨ak, an, sa⟩ := v
  obtain ⟨xk, xn, sx⟩ := x
  simp only [V.val] at *
  go_enter Try.func4, Try.ntmps4
  go_wp2_with fail
  go_region
  rw [← hW0]
  clear hW0
  go_wp2_with fail
  refine (lv _).mono ?_
  rintro e w1 ⟨rfl, hb1⟩
  have p0 := (hb1.cell (p := ⟨w.heap.size + 1, 0, none⟩) y1).trans p0
  have p1 := (hb1.cell (p := ⟨w.heap.size + 1, 1, none⟩) y1).trans p1
  have p2 := (hb1.cell (p := ⟨w.heap.size + 1, 2, none⟩) y1).trans p2
  have q0 := (hb1.cell (p := ⟨w.heap.size + 2, 0, none⟩) z0).trans q0
  have q1 := (hb1.cell (p := ⟨w.heap.size + 2, 1, none⟩) z0).trans q1
  have q2 := (hb1.cell (p := ⟨w.heap.size + 2, 2, none⟩) z0).trans q2
  have z0 : w.heap.size + 2 < w1.heap.size := by have := hb1.size; omega
  have y1 : w.heap.size + 1 < w1.heap.size := by omega
  have hR := below2 hR hb1
  clear hb1
  clear lv
  go_wp2_with fail
  refine (lx _).mono ?_
  rintro e w2 ⟨rfl, hb2⟩
  have p0 := (hb2.cell (p := ⟨w.heap.size + 1, 0, none⟩) y1).trans p0
  have p1 := (hb2.cell (p := ⟨w.heap.size + 1, 1, none⟩) y1).trans p1
  have p2 := (hb2.cell (p := ⟨w.heap.size + 1, 2, none⟩) y1).trans p2
  have q0 := (hb2.cell (p := ⟨w.heap.size + 2, 0, none⟩) z0).trans q0
  have q1 := (hb2.cell (p := ⟨w.heap.size + 2, 1, none⟩) z0).trans q1
  have q2 := (hb2.cell (p := ⟨w.heap.size + 2, 2, none⟩) z0).trans q2
  have z0 : w.heap.size + 2 < w2.heap.size := by have := hb2.size; omega
  have y1 : w.heap.size + 1 < w2.heap.size := by omega
  have hR := below2 hR hb2
  clear hb2
  clear lx
  go_wp2_with fail
  refine (gv _).mono ?_
  rintro e w3 ⟨rfl, hb3⟩
  have p0 := (hb3.cell (p := ⟨w.heap.size + 1, 0, none⟩) y1).trans p0
  have p1 := (hb3.cell (p := ⟨w.heap.size + 1, 1, none⟩) y1).trans p1
  have p2 := (hb3.cell (p := ⟨w.heap.size + 1, 2, none⟩) y1).trans p2
  have q0 := (hb3.cell (p := ⟨w.heap.size + 2, 0, none⟩) z0).trans q0
  have q1 := (hb3.cell (p := ⟨w.heap.size + 2, 1, none⟩) z0).trans q1
  have q2 := (hb3.cell (p := ⟨w.heap.size + 2, 2, none⟩) z0).trans q2
  have z0 : w.heap.size + 2 < w3.heap.size := by have := hb3.size; omega
  have y1 : w.heap.size + 1 < w3.heap.size := by omega
  have hR := below2 hR hb3
  clear hb3
  clear gv
  go_wp2_with fail
  refine (gx _).mono ?_
  rintro e w4 ⟨rfl, hb4⟩
  have p0 := (hb4.cell (p := ⟨w.heap.size + 1, 0, none⟩) y1).trans p0
  have p1 := (hb4.cell (p := ⟨w.heap.size + 1, 1, none⟩) y1).trans p1
  have p2 := (hb4.cell (p := ⟨w.heap.size + 1, 2, none⟩) y1).trans p2
  have q0 := (hb4.cell (p := ⟨w.heap.size + 2, 0, none⟩) z0).trans q0
  have q1 := (hb4.cell (p := ⟨w.heap.size + 2, 1, none⟩) z0).trans q1
  have q2 := (hb4.cell (p := ⟨w.heap.size + 2, 2, none⟩) z0).trans q2
  have z0 : w.heap.size + 2 < w4.heap.size := by have := hb4.size; omega
  have y1 : w.heap.size + 1 < w4.heap.size := by omega
  have hR := below2 hR hb4
  clear hb4
  clear gx
  go_wp2_with fail
  refine (cW _).mono ?_
  rintro e w9 ⟨rfl, hb9⟩
  go_wp2_with fail
  go_ret
  exact ⟨rfl, below2 hR hb9⟩

end Go.Proofs.Ytndbhalkhejgjab

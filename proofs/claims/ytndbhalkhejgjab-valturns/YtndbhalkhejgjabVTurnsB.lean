/- ValTurns: the good ones. -/
import Derived.Test.YtndbhalkhejgjabVTurnsA
import Derived.Lib.Walk
import Derived.Laws.Cover1
namespace Go.Proofs.Ytndbhalkhejgjab
open Go.RowKit
attribute [local go_sem ↓] Go.wp_at_zero Go.wp_at_succ

set_option maxHeartbeats 4000000 in
set_option maxRecDepth 100000 in
theorem turns_same (cW : Wakes) (s0 : ByteArray) (v x : V) (w : World) (h0 : ¬ (1000 : Int) < (s0.size : Int)) (h2 : ¬ 5000 < v.s.size) (h3 : ¬ 5000 < x.s.size) (h4 : goodB v = true) (h5 : goodB x = true)  :
    Calls Try.prog 4 #[.agg #[.string s0, .string s0], v.val, x.val] w fun e w' => e = .returned (.bool true) ∧ Below w.heap.size w w' := by
  have small1 : ∀ (n : ByteArray) (y : V), n.size ≤ 281474976710656 → y.s.size ≤ 281474976710656 → ∀ p ∈ [(⟨n, y⟩ : Pr)], smallP p := by
    intro n y hn hy p hp
    simp at hp
    subst hp
    exact ⟨hn, hy⟩
  have f1 := fun w => vset_any [] none 0 s0 v w (Or.inl rfl) (by simp) (by omega) (by omega) (by simp)
  rw [set_first s0 v (good_kind h4)] at f1
  have g1 := fun w => vset_any [] none 0 s0 x w (Or.inl rfl) (by simp) (by omega) (by omega) (by simp)
  rw [set_first s0 x (good_kind h5)] at g1
  have f2 := fun a' c' w h => vset_any [⟨s0, v⟩] a' c' s0 x w h (small1 _ _ (by omega) (by omega)) (by omega) (by omega) (by simp)
  have g2 := fun a' c' w h => vset_any [⟨s0, x⟩] a' c' s0 v w h (small1 _ _ (by omega) (by omega)) (by omega) (by omega) (by simp)
  rw [set_same s0 x v (good_kind h5)] at f2
  rw [set_same s0 v x (good_kind h4)] at g2
  have cKv := fun w => keepValue_any v v w
  have cKx := fun w => keepValue_any x x w
  rw [eqV_refl] at cKv cKx
  clear small1
  have lv := fun w => largeValue_any v w _ (decide_eq_false h2)
  have lx := fun w => largeValue_any x w _ (decide_eq_false h3)
  have gv := fun w => refGood_any v w
  have gx := fun w => refGood_any x w
  rw [h4] at gv
  rw [h5] at gx
  clear h2
  clear h3
  clear h4
  clear h5
  obtain ⟨hR, ⟨p0, p1, p2⟩, ⟨q0, q1, q2⟩, z0⟩ := turnsW_facts w s0 s0 v x
  obtain ⟨W0, hW0⟩ : ∃ W0, W0 = turnsW w s0 s0 v x := ⟨_, rfl⟩
  rw [← hW0] at hR p0 p1 p2 q0 q1 q2 z0
  simp only [turnsW] at hW0
  have y1 : w.heap.size + 1 < W0.heap.size := by omega
  obtain ⟨ak, an, sa⟩ := v
  obtain ⟨xk, xn, sx⟩ := x
  simp only [V.val] at *
  go_enter Try.func4, Try.ntmps4
  go_wp2_with fail
  go_region
  rw [← hW0]
  clear hW0
  go_wp2_with fail
  refine (lv _).mono ?_
  rintro e w1 ⟨rfl, hb1⟩
  have p0 := (hb1.cell (p := ⟨w.heap.size + 1, 0, none⟩) y1).trans p0
  have p1 := (hb1.cell (p := ⟨w.heap.size + 1, 1, none⟩) y1).trans p1
  have p2 := (hb1.cell (p := ⟨w.heap.size + 1, 2, none⟩) y1).trans p2
  have q0 := (hb1.cell (p := ⟨w.heap.size + 2, 0, none⟩) z0).trans q0
  have q1 := (hb1.cell (p := ⟨w.heap.size + 2, 1, none⟩) z0).trans q1
  have q2 := (hb1.cell (p := ⟨w.heap.size + 2, 2, none⟩) z0).trans q2
  have z0 : w.heap.size + 2 < w1.heap.size := by have := hb1.size; omega
  have y1 : w.heap.size + 1 < w1.heap.size := by omega
  have hR := below2 hR hb1
  clear hb1
  clear lv
  go_wp2_with fail
  refine (lx _).mono ?_
  rintro e w2 ⟨rfl, hb2⟩
  have p0 := (hb2.cell (p := ⟨w.heap.size + 1, 0, none⟩) y1).trans p0
  have p1 := (hb2.cell (p := ⟨w.heap.size + 1, 1, none⟩) y1).trans p1
  have p2 := (hb2.cell (p := ⟨w.heap.size + 1, 2, none⟩) y1).trans p2
  have q0 := (hb2.cell (p := ⟨w.heap.size + 2, 0, none⟩) z0).trans q0
  have q1 := (hb2.cell (p := ⟨w.heap.size + 2, 1, none⟩) z0).trans q1
  have q2 := (hb2.cell (p := ⟨w.heap.size + 2, 2, none⟩) z0).trans q2
  have z0 : w.heap.size + 2 < w2.heap.size := by have := hb2.size; omega
  have y1 : w.heap.size + 1 < w2.heap.size := by omega
  have hR := below2 hR hb2
  clear hb2
  clear lx
  go_wp2_with fail
  refine (gv _).mono ?_
  rintro e w3 ⟨rfl, hb3⟩
  have p0 := (hb3.cell (p := ⟨w.heap.size + 1, 0, none⟩) y1).trans p0
  have p1 := (hb3.cell (p := ⟨w.heap.size + 1, 1, none⟩) y1).trans p1
  have p2 := (hb3.cell (p := ⟨w.heap.size + 1, 2, none⟩) y1).trans p2
  have q0 := (hb3.cell (p := ⟨w.heap.size + 2, 0, none⟩) z0).trans q0
  have q1 := (hb3.cell (p := ⟨w.heap.size + 2, 1, none⟩) z0).trans q1
  have q2 := (hb3.cell (p := ⟨w.heap.size + 2, 2, none⟩) z0).trans q2
  have z0 : w.heap.size + 2 < w3.heap.size := by have := hb3.size; omega
  have y1 : w.heap.size + 1 < w3.heap.size := by omega
  have hR := below2 hR hb3
  clear hb3
  clear gv
  go_wp2_with fail
  refine (gx _).mono ?_
  rintro e w4 ⟨rfl, hb4⟩
  have p0 := (hb4.cell (p := ⟨w.heap.size + 1, 0, none⟩) y1).trans p0
  have p1 := (hb4.cell (p := ⟨w.heap.size + 1, 1, none⟩) y1).trans p1
  have p2 := (hb4.cell (p := ⟨w.heap.size + 1, 2, none⟩) y1).trans p2
  have q0 := (hb4.cell (p := ⟨w.heap.size + 2, 0, none⟩) z0).trans q0
  have q1 := (hb4.cell (p := ⟨w.heap.size + 2, 1, none⟩) z0).trans q1
  have q2 := (hb4.cell (p := ⟨w.heap.size + 2, 2, none⟩) z0).trans q2
  have z0 : w.heap.size + 2 < w4.heap.size := by have := hb4.size; omega
  have y1 : w.heap.size + 1 < w4.heap.size := by omega
  have hR := below2 hR hb4
  clear hb4
  clear gx
  go_wp2_with fail
  go_region_held3 (fun W => W.cell? ⟨w.heap.size + 1, 0, none⟩ = some (.int .i64 ak) ∧ W.cell? ⟨w.heap.size + 1, 1, none⟩ = some (.int .i64 an) ∧ W.cell? ⟨w.heap.size + 1, 2, none⟩ = some (.string sa) ∧ W.cell? ⟨w.heap.size + 2, 0, none⟩ = some (.int .i64 xk) ∧ W.cell? ⟨w.heap.size + 2, 1, none⟩ = some (.int .i64 xn) ∧ W.cell? ⟨w.heap.size + 2, 2, none⟩ = some (.string sx))
    (first | exact ⟨(hB.cell (p := ⟨w.heap.size + 1, 0, none⟩) y1).trans p0, (hB.cell (p := ⟨w.heap.size + 1, 1, none⟩) y1).trans p1, (hB.cell (p := ⟨w.heap.size + 1, 2, none⟩) y1).trans p2, (hB.cell (p := ⟨w.heap.size + 2, 0, none⟩) z0).trans q0, (hB.cell (p := ⟨w.heap.size + 2, 1, none⟩) z0).trans q1, (hB.cell (p := ⟨w.heap.size + 2, 2, none⟩) z0).trans q2⟩ | go_keep)
    ((first
      | (go_at_call_of 11 (Value.slice none 0 0); refine (f1 _).mono ?_; rintro e wA ⟨aT, cT, rfl, slT, hbA⟩; have hB := drew_below hbA)
      | (go_at_call 11; refine (f2 aT cT _ slT).mono ?_; rintro e wX ⟨aX, cX, rfl, slX, hbA⟩; have hB := below2 hB hbA)))
  have p0 := (hB.cell (p := ⟨w.heap.size + 1, 0, none⟩) y1).trans p0
  have p1 := (hB.cell (p := ⟨w.heap.size + 1, 1, none⟩) y1).trans p1
  have p2 := (hB.cell (p := ⟨w.heap.size + 1, 2, none⟩) y1).trans p2
  have q0 := (hB.cell (p := ⟨w.heap.size + 2, 0, none⟩) z0).trans q0
  have q1 := (hB.cell (p := ⟨w.heap.size + 2, 1, none⟩) z0).trans q1
  have q2 := (hB.cell (p := ⟨w.heap.size + 2, 2, none⟩) z0).trans q2
  have z0 : w.heap.size + 2 < wX.heap.size := by have := hB.size; omega
  have y1 : w.heap.size + 1 < wX.heap.size := by omega
  have hR := below2 hR hB
  clear f1 f2
  go_wp2_with fail
  go_region_held3 (fun W => W.cell? ⟨w.heap.size + 1, 0, none⟩ = some (.int .i64 ak) ∧ W.cell? ⟨w.heap.size + 1, 1, none⟩ = some (.int .i64 an) ∧ W.cell? ⟨w.heap.size + 1, 2, none⟩ = some (.string sa) ∧ W.cell? ⟨w.heap.size + 2, 0, none⟩ = some (.int .i64 xk) ∧ W.cell? ⟨w.heap.size + 2, 1, none⟩ = some (.int .i64 xn) ∧ W.cell? ⟨w.heap.size + 2, 2, none⟩ = some (.string sx))
    (first | exact ⟨(hB.cell (p := ⟨w.heap.size + 1, 0, none⟩) y1).trans p0, (hB.cell (p := ⟨w.heap.size + 1, 1, none⟩) y1).trans p1, (hB.cell (p := ⟨w.heap.size + 1, 2, none⟩) y1).trans p2, (hB.cell (p := ⟨w.heap.size + 2, 0, none⟩) z0).trans q0, (hB.cell (p := ⟨w.heap.size + 2, 1, none⟩) z0).trans q1, (hB.cell (p := ⟨w.heap.size + 2, 2, none⟩) z0).trans q2⟩ | go_keep)
    ((first
      | (go_at_call_of 11 (Value.slice none 0 0); refine (g1 _).mono ?_; rintro e wA ⟨aT, cT, rfl, slT, hbA⟩; have hB := drew_below hbA)
      | (go_at_call 11; refine (g2 aT cT _ slT).mono ?_; rintro e wY ⟨aY, cY, rfl, slY, hbA⟩; have hB := below2 hB hbA)))
  have p0 := (hB.cell (p := ⟨w.heap.size + 1, 0, none⟩) y1).trans p0
  have p1 := (hB.cell (p := ⟨w.heap.size + 1, 1, none⟩) y1).trans p1
  have p2 := (hB.cell (p := ⟨w.heap.size + 1, 2, none⟩) y1).trans p2
  have q0 := (hB.cell (p := ⟨w.heap.size + 2, 0, none⟩) z0).trans q0
  have q1 := (hB.cell (p := ⟨w.heap.size + 2, 1, none⟩) z0).trans q1
  have q2 := (hB.cell (p := ⟨w.heap.size + 2, 2, none⟩) z0).trans q2
  have z0 : w.heap.size + 2 < wY.heap.size := by have := hB.size; omega
  have y1 : w.heap.size + 1 < wY.heap.size := by omega
  have hR := below2 hR hB
  have slX := slX.kept hB
  clear g1 g2
  obtain ⟨b1, o1, rfl, l1, u0, u1, u2, u3⟩ := slX.first
  obtain ⟨b2, o2, rfl, l2, t0, t1, t2, t3⟩ := slY.first
  simp only at u0 u1 u2 u3 t0 t1 t2 t3
  go_wp2_with fail
  go_region_held3 (fun W => W.cell? ⟨w.heap.size + 1, 0, none⟩ = some (.int .i64 ak) ∧ W.cell? ⟨w.heap.size + 1, 1, none⟩ = some (.int .i64 an) ∧ W.cell? ⟨w.heap.size + 1, 2, none⟩ = some (.string sa) ∧ W.cell? ⟨w.heap.size + 2, 0, none⟩ = some (.int .i64 xk) ∧ W.cell? ⟨w.heap.size + 2, 1, none⟩ = some (.int .i64 xn) ∧ W.cell? ⟨w.heap.size + 2, 2, none⟩ = some (.string sx) ∧ W.cell? ⟨b1, o1 + 1, none⟩ = some (.int .i64 xk) ∧ W.cell? ⟨b1, o1 + 2, none⟩ = some (.int .i64 xn) ∧ W.cell? ⟨b1, o1 + 3, none⟩ = some (.string sx) ∧ W.cell? ⟨b2, o2 + 1, none⟩ = some (.int .i64 ak) ∧ W.cell? ⟨b2, o2 + 2, none⟩ = some (.int .i64 an) ∧ W.cell? ⟨b2, o2 + 3, none⟩ = some (.string sa))
    (first | exact ⟨(hB.cell (p := ⟨w.heap.size + 1, 0, none⟩) y1).trans p0, (hB.cell (p := ⟨w.heap.size + 1, 1, none⟩) y1).trans p1, (hB.cell (p := ⟨w.heap.size + 1, 2, none⟩) y1).trans p2, (hB.cell (p := ⟨w.heap.size + 2, 0, none⟩) z0).trans q0, (hB.cell (p := ⟨w.heap.size + 2, 1, none⟩) z0).trans q1, (hB.cell (p := ⟨w.heap.size + 2, 2, none⟩) z0).trans q2, (hB.cell (p := ⟨b1, o1 + 1, none⟩) l1).trans u1, (hB.cell (p := ⟨b1, o1 + 2, none⟩) l1).trans u2, (hB.cell (p := ⟨b1, o1 + 3, none⟩) l1).trans u3, (hB.cell (p := ⟨b2, o2 + 1, none⟩) l2).trans t1, (hB.cell (p := ⟨b2, o2 + 2, none⟩) l2).trans t2, (hB.cell (p := ⟨b2, o2 + 3, none⟩) l2).trans t3⟩ | go_keep)
    ((first
      | (go_at_call_of 14 (Value.agg #[Value.int IntKind.i64 xk, Value.int IntKind.i64 xn, Value.string sx]); refine (cKx _).mono ?_; rintro e wA ⟨rfl, hbA⟩; have hB := drew_below hbA)
      | (go_at_call_of 14 (Value.agg #[Value.int IntKind.i64 ak, Value.int IntKind.i64 an, Value.string sa]); refine (cKv _).mono ?_; rintro e wA ⟨rfl, hbA⟩; have hB := below2 hB hbA)
      | (go_at_call 10; refine (cW _).mono ?_; rintro e wA ⟨rfl, hbA⟩; have hB := below2 hB hbA)))
  all_goals go_wp2_with fail
  all_goals go_ret
  all_goals exact ⟨rfl, below2 hR hB⟩

end Go.Proofs.Ytndbhalkhejgjab

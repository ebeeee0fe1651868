/- The walk of ValOrder: the order of values is one. -/
import Derived.Test.YtndbhalkhejgjaaVWakes
import Derived.Test.YtndbhalkhejgjaaVComp
import Derived.Test.YtndbhalkhejgjaaVOpen
namespace Go.Proofs.Ytndbhalkhejgjaa
open Go.RowKit
attribute [local go_sem ↓] Go.wp_at_zero Go.wp_at_succ

/-- Three cells of one block. -/
structure B3 (w : World) (b : Nat) (v : V) : Prop where
  c0 : w.cell? ⟨b, 0, none⟩ = some (.int .i64 v.k)
  c1 : w.cell? ⟨b, 1, none⟩ = some (.int .i64 v.n)
  c2 : w.cell? ⟨b, 2, none⟩ = some (.string v.s)

theorem B3.new (w : World) (v : V) (t : TypeId) {H : Nat} (hH : w.heap.size = H) : B3 (w.alloc (.cells #[.int .i64 v.k, .int .i64 v.n, .string v.s] t)) H v := by
  subst hH
  refine ⟨?_, ?_, ?_⟩ <;> simp

theorem B3.kept {w w' : World} {B b : Nat} {v : V} (h : B3 w b v) (hb : Below B w w') (hB : b < B) : B3 w' b v :=
  ⟨(hb.cell (p := ⟨b, 0, none⟩) hB).trans h.c0, (hb.cell (p := ⟨b, 1, none⟩) hB).trans h.c1, (hb.cell (p := ⟨b, 2, none⟩) hB).trans h.c2⟩

set_option maxHeartbeats 800000 in
set_option maxRecDepth 100000 in
theorem order_large (a b c : V) (w : World) (h : 5000 < a.s.size ∨ 5000 < b.s.size ∨ 5000 < c.s.size) :
    Calls Try.prog 8 #[a.val, b.val, c.val] w fun e w' => e = .returned (.bool true) ∧ Below w.heap.size w w' := by
  have cW := fun w => vwakes_any w
  have la := fun w => largeValue_any a w _ rfl
  have lb := fun w => largeValue_any b w _ rfl
  have lc := fun w => largeValue_any c w _ rfl
  by_cases ha : 5000 < a.s.size
  · rw [decide_eq_true ha] at la
    clear h ha
    obtain ⟨ak, an, sa⟩ := a
    obtain ⟨bk, bn, sb⟩ := b
    obtain ⟨ck, cn, sc⟩ := c
    simp only [V.val] at *
    go_enter Try.func8, Try.ntmps8
    go_wp2_with fail
    refine (la _).mono ?_
    rintro e w1 ⟨rfl, hb1⟩
    go_wp2_with fail
    refine (cW _).mono ?_
    rintro e w2 ⟨rfl, hb2⟩
    go_wp2_with fail
    go_ret
    exact ⟨rfl, below3 (below_alloc3 w _ _ _) hb1 hb2⟩
  by_cases hb : 5000 < b.s.size
  · rw [decide_eq_false ha] at la
    rw [decide_eq_true hb] at lb
    clear h ha hb
    obtain ⟨ak, an, sa⟩ := a
    obtain ⟨bk, bn, sb⟩ := b
    obtain ⟨ck, cn, sc⟩ := c
    simp only [V.val] at *
    go_enter Try.func8, Try.ntmps8
    go_wp2_with fail
    refine (la _).mono ?_
    rintro e w1 ⟨rfl, hb1⟩
    obtain ⟨hc1, _⟩ := bcell hb1
    go_wp2_with fail
    refine (lb _).mono ?_
    rintro e w2 ⟨rfl, hb2⟩
    go_wp2_with fail
    refine (cW _).mono ?_
    rintro e w3 ⟨rfl, hb3⟩
    go_wp2_with fail
    go_ret
    exact ⟨rfl, below3 (below2 (below_alloc3 w _ _ _) hb1) hb2 hb3⟩
  · have hc : 5000 < c.s.size := by omega
    rw [decide_eq_false ha] at la
    rw [decide_eq_false hb] at lb
    rw [decide_eq_true hc] at lc
    clear h ha hb hc
    obtain ⟨ak, an, sa⟩ := a
    obtain ⟨bk, bn, sb⟩ := b
    obtain ⟨ck, cn, sc⟩ := c
    simp only [V.val] at *
    go_enter Try.func8, Try.ntmps8
    go_wp2_with fail
    refine (la _).mono ?_
    rintro e w1 ⟨rfl, hb1⟩
    obtain ⟨hc1, _⟩ := bcell hb1
    go_wp2_with fail
    refine (lb _).mono ?_
    rintro e w2 ⟨rfl, hb2⟩
    obtain ⟨hc2, _⟩ := bcell hb2
    have hz : w.heap.size + 2 < w1.heap.size := by have := hb1.size; simp at this; omega
    go_wp2_with fail
    refine (lc _).mono ?_
    rintro e w3 ⟨rfl, hb3⟩
    go_wp2_with fail
    refine (cW _).mono ?_
    rintro e w4 ⟨rfl, hb4⟩
    go_wp2_with fail
    go_ret
    exact ⟨rfl, below3 (below3 (below_alloc3 w _ _ _) hb1 hb2) hb3 hb4⟩

theorem order_sum (a b c : V) : (0 < cmpV a b) ∨ (cmpV a b = 0 ∧ 0 < cmpV b c) ∨ (cmpV a b < 0 ∧ 0 < cmpV b c) ∨ (cmpV a b = 0 ∧ ¬ 0 < cmpV b c ∧ cmpV a c ≤ 0) ∨ (cmpV a b < 0 ∧ ¬ 0 < cmpV b c ∧ cmpV a c < 0) := by
  rcases cmpV_tri a b with ⟨h, e, _⟩ | ⟨h, e, _⟩ | ⟨h, e, _⟩
  · rcases cmpV_tri b c with ⟨g, f, _⟩ | ⟨g, f, _⟩ | ⟨g, f, _⟩
    · have := cmpV_lt (ahead_trans h g)
      omega
    · subst g
      omega
    · omega
  · subst h
    rcases cmpV_tri a c with ⟨g, f, _⟩ | ⟨g, f, _⟩ | ⟨g, f, _⟩ <;> omega
  · omega

theorem cmp_neg (a b : V) : (cmpV a b != -(cmpV b a)) = false := by
  rcases cmpV_tri a b with ⟨_, e, f⟩ | ⟨_, e, f⟩ | ⟨_, e, f⟩ <;> rw [e, f] <;> rfl

theorem cmp_eq (a b : V) : (cmpV a b == 0) = eqV a b := by
  rcases cmpV_tri a b with ⟨h, e, _⟩ | ⟨h, e, _⟩ | ⟨h, e, _⟩
  · rw [e]
    cases he : eqV a b with
    | false => rfl
    | true => rw [eqV_iff] at he; subst he; exact absurd h (ahead_irrefl _)
  · subst h
    rw [e, eqV_refl]
    rfl
  · rw [e]
    cases he : eqV a b with
    | false => rfl
    | true => rw [eqV_iff] at he; subst he; exact absurd h (ahead_irrefl _)

theorem cmp_range (a b : V) : -1 ≤ cmpV a b ∧ cmpV a b ≤ 1 := by
  rcases cmpV_tri a b with ⟨_, e, _⟩ | ⟨_, e, _⟩ | ⟨_, e, _⟩ <;> rw [e] <;> decide

theorem compare_at (k n : Int) (s : ByteArray) (k' n' : Int) (s' : ByteArray) (w : World) : Calls Try.prog 15 #[.agg #[.int .i64 k, .int .i64 n, .string s], .agg #[.int .i64 k', .int .i64 n', .string s']] w fun e w' =>
    e = .returned (.int .i64 (cmpV ⟨k, n, s⟩ ⟨k', n', s'⟩)) ∧ Below w.heap.size w w' := compare_any ⟨k, n, s⟩ ⟨k', n', s'⟩ w

set_option maxHeartbeats 1600000 in
set_option maxRecDepth 100000 in
theorem order_in (a b c : V) (w : World) (ha : ¬ 5000 < a.s.size) (hb : ¬ 5000 < b.s.size) (hc : ¬ 5000 < c.s.size) :
    Calls Try.prog 8 #[a.val, b.val, c.val] w fun e w' => e = .returned (.bool true) ∧ Below w.heap.size w w' := by
  have cW := fun w => vwakes_any w
  have la := fun w => largeValue_any a w _ (decide_eq_false ha)
  have lb := fun w => largeValue_any b w _ (decide_eq_false hb)
  have lc := fun w => largeValue_any c w _ (decide_eq_false hc)
  have k4 := fun w => compare_any b a w
  have k5 := fun w => compare_any a a w
  have k6 := fun w => keepValue_any a b w
  rw [cmpV_refl a] at k5
  have q1 := cmp_neg a b
  have q2 := cmp_eq a b
  have q3 := order_sum a b c
  have q4 := cmp_range b a
  clear ha hb hc
  obtain ⟨ak, an, sa⟩ := a
  obtain ⟨bk, bn, sb⟩ := b
  obtain ⟨ck, cn, sc⟩ := c
  simp only [V.val] at *
  have Q3 : Hid _ := q3
  clear q3
  have Q1 : Hid _ := q1
  have Q2 : Hid _ := q2
  clear q1 q2
  generalize cmpV ⟨bk, bn, sb⟩ ⟨ak, an, sa⟩ = x' at *
  generalize eqV ⟨ak, an, sa⟩ ⟨bk, bn, sb⟩ = eq at *
  obtain ⟨q40, q41⟩ := q4
  go_enter Try.func8, Try.ntmps8
  go_wp2_with fail
  refine (la _).mono ?_
  rintro e w1 ⟨rfl, hb1⟩
  obtain ⟨hc1, _⟩ := bcell hb1
  go_wp2_with fail
  refine (lb _).mono ?_
  rintro e w2 ⟨rfl, hb2⟩
  obtain ⟨hc2, _⟩ := bcell hb2
  have hz : w.heap.size + 2 < w1.heap.size := by have := hb1.size; simp at this; omega
  go_wp2_with fail
  refine (lc _).mono ?_
  rintro e w3 ⟨rfl, hb3⟩
  have hR3 : Below w.heap.size w w3 := below3 (below2 (below_alloc3 w _ _ _) hb1) hb2 hb3
  have hz3 : w.heap.size + 2 < w3.heap.size := by have := hb2.size; have := hb3.size; omega
  have A3 : B3 w3 w.heap.size ⟨ak, an, sa⟩ := (((((B3.new w ⟨ak, an, sa⟩ _ rfl).kept (below_two _ _ _) (by simp)).kept hb1 (by simp; omega))).kept hb2 (by omega)).kept hb3 (by have := hb2.size; omega)
  have C3 : B3 w3 (w.heap.size + 1) ⟨bk, bn, sb⟩ := (((((B3.new (w.alloc _) ⟨bk, bn, sb⟩ _ (by simp)).kept (below_alloc1 _ _) (by simp)).kept hb1 (by simp))).kept hb2 (by omega)).kept hb3 (by have := hb2.size; omega)
  have D3 : B3 w3 (w.heap.size + 2) ⟨ck, cn, sc⟩ := ((((B3.new ((w.alloc _).alloc _) ⟨ck, cn, sc⟩ _ (by simp)).kept hb1 (by simp))).kept hb2 (by omega)).kept hb3 (by have := hb2.size; omega)
  clear hc1 hc2 hb1 hb2 hb3 la lb lc hz
  obtain ⟨a0, a1, a2⟩ := A3
  obtain ⟨b0, b1, b2⟩ := C3
  obtain ⟨c0, c1, c2⟩ := D3
  simp only at a0 a1 a2 b0 b1 b2 c0 c1 c2
  have y0 : w.heap.size < w3.heap.size := by omega
  have y1 : w.heap.size + 1 < w3.heap.size := by omega
  go_upto_region 3 with fail
  go_cut [7, 8, 9] (fun s7 s8 s9 wx => s7 = .int .i64 (cmpV ⟨ak, an, sa⟩ ⟨bk, bn, sb⟩) ∧ s8 = .int .i64 (cmpV ⟨bk, bn, sb⟩ ⟨ck, cn, sc⟩) ∧ s9 = .int .i64 (cmpV ⟨ak, an, sa⟩ ⟨ck, cn, sc⟩) ∧ Below w3.heap.size w3 wx)
  case first =>
    go_region_held3 (fun W => W.cell? ⟨w.heap.size, 0, none⟩ = some (.int .i64 ak) ∧ W.cell? ⟨w.heap.size, 1, none⟩ = some (.int .i64 an) ∧ W.cell? ⟨w.heap.size, 2, none⟩ = some (.string sa) ∧ W.cell? ⟨w.heap.size + 1, 0, none⟩ = some (.int .i64 bk) ∧ W.cell? ⟨w.heap.size + 1, 1, none⟩ = some (.int .i64 bn) ∧ W.cell? ⟨w.heap.size + 1, 2, none⟩ = some (.string sb) ∧ W.cell? ⟨w.heap.size + 2, 0, none⟩ = some (.int .i64 ck) ∧ W.cell? ⟨w.heap.size + 2, 1, none⟩ = some (.int .i64 cn) ∧ W.cell? ⟨w.heap.size + 2, 2, none⟩ = some (.string sc))
      (first | exact ⟨(hB.cell (p := ⟨w.heap.size, 0, none⟩) y0).trans a0, (hB.cell (p := ⟨w.heap.size, 1, none⟩) y0).trans a1, (hB.cell (p := ⟨w.heap.size, 2, none⟩) y0).trans a2, (hB.cell (p := ⟨w.heap.size + 1, 0, none⟩) y1).trans b0, (hB.cell (p := ⟨w.heap.size + 1, 1, none⟩) y1).trans b1, (hB.cell (p := ⟨w.heap.size + 1, 2, none⟩) y1).trans b2, (hB.cell (p := ⟨w.heap.size + 2, 0, none⟩) hz3).trans c0, (hB.cell (p := ⟨w.heap.size + 2, 1, none⟩) hz3).trans c1, (hB.cell (p := ⟨w.heap.size + 2, 2, none⟩) hz3).trans c2⟩ | go_keep)
      ((go_at_call 15; refine (compare_at _ _ _ _ _ _ _).mono ?_; rintro e wA ⟨rfl, hbA⟩; first | have hB := drew_below hbA | have hB := below2 hB hbA))
    all_goals go_wp2_with fail
    all_goals go_meet
    all_goals exact ⟨rfl, rfl, rfl, hB⟩
  case rest =>
    obtain ⟨rfl, rfl, rfl, hbc⟩ := hcut
    have a0' := (hbc.cell (p := ⟨w.heap.size, 0, none⟩) y0).trans a0
    have a1' := (hbc.cell (p := ⟨w.heap.size, 1, none⟩) y0).trans a1
    have a2' := (hbc.cell (p := ⟨w.heap.size, 2, none⟩) y0).trans a2
    have b0' := (hbc.cell (p := ⟨w.heap.size + 1, 0, none⟩) y1).trans b0
    have b1' := (hbc.cell (p := ⟨w.heap.size + 1, 1, none⟩) y1).trans b1
    have b2' := (hbc.cell (p := ⟨w.heap.size + 1, 2, none⟩) y1).trans b2
    have hR4 := below2 hR3 hbc
    have y0' : w.heap.size < wc.heap.size := by have := hbc.size; omega
    have y1' : w.heap.size + 1 < wc.heap.size := by have := hbc.size; omega
    clear a0 a1 a2 b0 b1 b2 c0 c1 c2 hbc hR3 y0 y1 hz3
    have q1 := Q1.out
    have q2 := Q2.out
    clear Q1 Q2
    generalize cmpV ⟨ak, an, sa⟩ ⟨bk, bn, sb⟩ = x at *
    generalize cmpV ⟨bk, bn, sb⟩ ⟨ck, cn, sc⟩ = y at *
    generalize cmpV ⟨ak, an, sa⟩ ⟨ck, cn, sc⟩ = z at *
    go_wp2_with fail
    refine (k4 _).mono ?_
    rintro e w4 ⟨rfl, hb4⟩
    obtain ⟨hc4, _⟩ := bcell hb4
    go_wp2_with fail
    refine (k6 _).mono ?_
    rintro e w5 ⟨rfl, hb5⟩
    obtain ⟨hc5, _⟩ := bcell hb5
    have y05 : w.heap.size < w4.heap.size := by have := hb4.size; omega
    go_wp2_with fail
    refine (k5 _).mono ?_
    rintro e w6 ⟨rfl, hb6⟩
    have hR := below2 (below3 hR4 hb4 hb5) hb6
    clear hc4 hc5 a0' a1' a2' b0' b1' b2' hb4 hb5 hb6 hR4 y05 y0' y1' k4 k5 k6
    rcases Q3.out with h | ⟨h, h2⟩ | ⟨h, h2⟩ | ⟨h, h2, h3⟩ | ⟨h, h2, h3⟩
    all_goals
      go_wp2_with fail
      refine (cW _).mono ?_
      rintro e w7 ⟨rfl, hb7⟩
      go_wp2_with fail
      go_ret
      exact ⟨by first | rfl | (simp; omega), below2 hR hb7⟩

theorem order_walk (a b c : V) (w : World) : Calls Try.prog 8 #[a.val, b.val, c.val] w fun e w' => e = .returned (.bool true) ∧ Below w.heap.size w w' := by
  by_cases h : 5000 < a.s.size ∨ 5000 < b.s.size ∨ 5000 < c.s.size
  · exact order_large a b c w h
  · exact order_in a b c w (by omega) (by omega) (by omega)

set_option maxRecDepth 100000 in
theorem order_open (v0 v1 v2 : Value) (W : World) {H : Type} {enc : TypeId × Value → H} {base : Nat} {d0 d1 d2 : DataW H} {p0 p1 p2 : List MemPlace}
    (hv0 : Value.okWide Try.prog W .any base 23 v0) (h0 : DataW.Trod enc Try.prog W 0 (fun _ => true) true 23 v0 d0 p0)
    (hv1 : Value.okWide Try.prog W .any base 23 v1) (h1 : DataW.Trod enc Try.prog W 0 (fun _ => true) true 23 v1 d1 p1)
    (hv2 : Value.okWide Try.prog W .any base 23 v2) (h2 : DataW.Trod enc Try.prog W 0 (fun _ => true) true 23 v2 d2 p2) :
    Calls Try.prog 8 #[v0, v1, v2] W fun e w' => e = .returned (.bool true) ∧ Below W.heap.size W w' := by
  obtain ⟨a, rfl, _⟩ := open_value hv0 h0
  obtain ⟨b, rfl, _⟩ := open_value hv1 h1
  obtain ⟨c, rfl, _⟩ := open_value hv2 h2
  exact order_walk a b c W

end Go.Proofs.Ytndbhalkhejgjaa

/- The walk of ValTells. -/
import Derived.Test.YtndbhalkhejgjaaVOrder
import Derived.Test.YtndbhalkhejgjaaVRef2
import Derived.Test.YtndbhalkhejgjaaVComp2
import Derived.Test.YtndbhalkhejgjaaVGood
namespace Go.Proofs.Ytndbhalkhejgjaa
open Go.RowKit
attribute [local go_sem ↓] Go.wp_at_zero Go.wp_at_succ

set_option maxHeartbeats 800000 in
set_option maxRecDepth 100000 in
theorem tells_large (s : ByteArray) (a b : V) (w : World) (h : 100000 < s.size ∨ 5000 < a.s.size ∨ 5000 < b.s.size) :
    Calls Try.prog 3 #[.string s, a.val, b.val] w fun e w' => e = .returned (.bool true) ∧ Below w.heap.size w w' := by
  have cW := fun w => vwakes_any w
  have la := fun w => largeValue_any a w _ rfl
  have lb := fun w => largeValue_any b w _ rfl
  by_cases hs : 100000 < s.size
  · have hs' : (100000 : Int) < (s.size : Int) := by omega
    clear h hs
    obtain ⟨ak, an, sa⟩ := a
    obtain ⟨bk, bn, sb⟩ := b
    simp only [V.val] at *
    go_enter Try.func3, Try.ntmps3
    go_wp2_with fail
    refine (cW _).mono ?_
    rintro e w2 ⟨rfl, hb2⟩
    go_wp2_with fail
    go_ret
    exact ⟨rfl, below2 (below_two w _ _) hb2⟩
  have hs' : ¬ (100000 : Int) < (s.size : Int) := by omega
  by_cases ha : 5000 < a.s.size
  · rw [decide_eq_true ha] at la
    clear h ha hs
    obtain ⟨ak, an, sa⟩ := a
    obtain ⟨bk, bn, sb⟩ := b
    simp only [V.val] at *
    go_enter Try.func3, Try.ntmps3
    go_wp2_with fail
    refine (la _).mono ?_
    rintro e w1 ⟨rfl, hb1⟩
    go_wp2_with fail
    refine (cW _).mono ?_
    rintro e w2 ⟨rfl, hb2⟩
    go_wp2_with fail
    go_ret
    exact ⟨rfl, below3 (below_two w _ _) hb1 hb2⟩
  · have hb : 5000 < b.s.size := by omega
    rw [decide_eq_false ha] at la
    rw [decide_eq_true hb] at lb
    clear h ha hb hs
    obtain ⟨ak, an, sa⟩ := a
    obtain ⟨bk, bn, sb⟩ := b
    simp only [V.val] at *
    go_enter Try.func3, Try.ntmps3
    go_wp2_with fail
    refine (la _).mono ?_
    rintro e w1 ⟨rfl, hb1⟩
    obtain ⟨hc1, _⟩ := bcell hb1
    go_wp2_with fail
    refine (lb _).mono ?_
    rintro e w2 ⟨rfl, hb2⟩
    go_wp2_with fail
    refine (cW _).mono ?_
    rintro e w3 ⟨rfl, hb3⟩
    go_wp2_with fail
    go_ret
    exact ⟨rfl, below3 (below2 (below_two w _ _) hb1) hb2 hb3⟩

set_option maxHeartbeats 4000000 in
set_option maxRecDepth 100000 in
theorem tells_in (s : ByteArray) (a b : V) (w : World) (hs : ¬ 100000 < s.size) (ha : ¬ 5000 < a.s.size) (hb : ¬ 5000 < b.s.size) :
    Calls Try.prog 3 #[.string s, a.val, b.val] w fun e w' => e = .returned (.bool true) ∧ Below w.heap.size w w' := by
  have cW := fun w => vwakes_any w
  have la := fun w => largeValue_any a w _ (decide_eq_false ha)
  have lb := fun w => largeValue_any b w _ (decide_eq_false hb)
  have k1 := fun w => name_any s w
  have k2 := fun w => refName_any s w (by omega)
  have k3 := fun w => good_any a w
  have k4 := fun w => refGood_any a w
  have k5 := fun w => compare_any a b w
  have k6 := fun w => refCompare_any a b w
  have hs' : ¬ (100000 : Int) < (s.size : Int) := by omega
  clear ha hb hs
  generalize nameB s = nb at *
  generalize goodB a = gb at *
  generalize cmpV a b = x at *
  obtain ⟨ak, an, sa⟩ := a
  obtain ⟨bk, bn, sb⟩ := b
  simp only [V.val] at *
  go_enter Try.func3, Try.ntmps3
  go_wp2_with fail
  refine (la _).mono ?_
  rintro e w1 ⟨rfl, hb1⟩
  obtain ⟨hc1, _⟩ := bcell hb1
  go_wp2_with fail
  refine (lb _).mono ?_
  rintro e w2 ⟨rfl, hb2⟩
  have hz : w.heap.size + 1 < w1.heap.size := by have := hb1.size; simp at this; omega
  have hR2 : Below w.heap.size w w2 := below3 (below_two w _ _) hb1 hb2
  have y1 : w.heap.size + 1 < w2.heap.size := by have := hb2.size; omega
  have y0 : w.heap.size < w2.heap.size := by omega
  have A3 : B3 w2 w.heap.size ⟨ak, an, sa⟩ := (((B3.new w ⟨ak, an, sa⟩ _ rfl).kept (below_alloc1 _ _) (by simp)).kept hb1 (by simp; omega)).kept hb2 (by omega)
  have C3 : B3 w2 (w.heap.size + 1) ⟨bk, bn, sb⟩ := ((B3.new (w.alloc _) ⟨bk, bn, sb⟩ _ (by simp)).kept hb1 (by simp)).kept hb2 (by omega)
  clear hc1 hb1 hb2 la lb hz
  obtain ⟨a0, a1, a2⟩ := A3
  obtain ⟨b0, b1, b2⟩ := C3
  simp only at a0 a1 a2 b0 b1 b2
  go_wp2_with fail
  go_region_held3 (fun W => W.cell? ⟨w.heap.size, 0, none⟩ = some (.int .i64 ak) ∧ W.cell? ⟨w.heap.size, 1, none⟩ = some (.int .i64 an) ∧ W.cell? ⟨w.heap.size, 2, none⟩ = some (.string sa) ∧ W.cell? ⟨w.heap.size + 1, 0, none⟩ = some (.int .i64 bk) ∧ W.cell? ⟨w.heap.size + 1, 1, none⟩ = some (.int .i64 bn) ∧ W.cell? ⟨w.heap.size + 1, 2, none⟩ = some (.string sb))
    (first | exact ⟨(hB.cell (p := ⟨w.heap.size, 0, none⟩) y0).trans a0, (hB.cell (p := ⟨w.heap.size, 1, none⟩) y0).trans a1, (hB.cell (p := ⟨w.heap.size, 2, none⟩) y0).trans a2, (hB.cell (p := ⟨w.heap.size + 1, 0, none⟩) y1).trans b0, (hB.cell (p := ⟨w.heap.size + 1, 1, none⟩) y1).trans b1, (hB.cell (p := ⟨w.heap.size + 1, 2, none⟩) y1).trans b2⟩ | go_keep)
    ((first
      | (go_at_call 11; refine (k1 _).mono ?_; rintro e wA ⟨rfl, rfl⟩)
      | (go_at_call 12; refine (k2 _).mono ?_; rintro e wA ⟨rfl, rfl⟩)
      | (go_at_call 13; refine (k3 _).mono ?_; rintro e wA ⟨rfl, hbA⟩; first | have hB := drew_below hbA | have hB := below2 hB hbA)
      | (go_at_call 14; refine (k4 _).mono ?_; rintro e wA ⟨rfl, hbA⟩; first | have hB := drew_below hbA | have hB := below2 hB hbA)
      | (go_at_call 15; refine (k5 _).mono ?_; rintro e wA ⟨rfl, hbA⟩; first | have hB := drew_below hbA | have hB := below2 hB hbA)
      | (go_at_call 16; refine (k6 _).mono ?_; rintro e wA ⟨rfl, hbA⟩; first | have hB := drew_below hbA | have hB := below2 hB hbA)
      | (go_at_call 10; refine (cW _).mono ?_; rintro e wA ⟨rfl, hbA⟩; first | have hB := drew_below hbA | have hB := below2 hB hbA)))
  all_goals go_wp2_with fail
  all_goals go_ret
  all_goals exact ⟨rfl, below2 hR2 hB⟩

set_option maxRecDepth 100000 in
theorem tells_open (s : ByteArray) (v1 v2 : Value) (W : World) (_hs : s.size ≤ maxLen) {H : Type} {enc : TypeId × Value → H} {base : Nat} {d1 d2 : DataW H} {p1 p2 : List MemPlace}
    (hv1 : Value.okWide Try.prog W .any base 23 v1) (h1 : DataW.Trod enc Try.prog W 0 (fun _ => true) true 23 v1 d1 p1)
    (hv2 : Value.okWide Try.prog W .any base 23 v2) (h2 : DataW.Trod enc Try.prog W 0 (fun _ => true) true 23 v2 d2 p2) :
    Calls Try.prog 3 #[.string s, v1, v2] W fun e w' => e = .returned (.bool true) ∧ Below W.heap.size W w' := by
  obtain ⟨a, rfl, _⟩ := open_value hv1 h1
  obtain ⟨b, rfl, _⟩ := open_value hv2 h2
  by_cases h : 100000 < s.size ∨ 5000 < a.s.size ∨ 5000 < b.s.size
  · exact tells_large s a b W h
  · exact tells_in s a b W (by omega) (by omega) (by omega)

end Go.Proofs.Ytndbhalkhejgjaa

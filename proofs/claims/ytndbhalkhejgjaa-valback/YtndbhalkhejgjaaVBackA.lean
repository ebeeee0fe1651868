/- ValBack: what is too long is not gone through. -/
import Derived.Test.YtndbhalkhejgjaaVOrder
import Derived.Test.YtndbhalkhejgjaaVKeep
import Derived.Test.YtndbhalkhejgjaaVRefSet
import Derived.Test.YtndbhalkhejgjaaVRef2
import Derived.Test.YtndbhalkhejgjaaVEncProps
import Derived.Test.YtndbhalkhejgjaaVDecProps2
import Derived.Test.YtndbhalkhejgjaaVBackMath2
import Derived.Test.YtndbhalkhejgjaaVTake
import Derived.Laws.Cover1
namespace Go.Proofs.Ytndbhalkhejgjaa
open Go.RowKit
attribute [local go_sem ↓] Go.wp_at_zero Go.wp_at_succ

set_option maxHeartbeats 800000 in
set_option maxRecDepth 100000 in
theorem back_1 (v : V) (L : List Pr) (a : Option Addr) (cap : Nat) (s : ByteArray) (w : World) (hsl : Sl w a L) (h0 : 5000 < v.s.size) :
    Calls Try.prog 7 #[v.val, .slice a L.length cap, .string s] w fun e w' => e = .returned (.bool true) ∧ Below w.heap.size w w' := by
  have lv := fun w => largeValue_any v w _ (decide_eq_true h0)
  clear h0
  have hsl := hsl.kept (below_alloc1 w (.cells #[.int .i64 v.k, .int .i64 v.n, .string v.s] 23))
  obtain ⟨p0, p1, p2⟩ := B3.new w v 23 rfl
  have hR := below_alloc1 w (.cells #[.int .i64 v.k, .int .i64 v.n, .string v.s] 23)
  have y1 : w.heap.size < (w.alloc (.cells #[.int .i64 v.k, .int .i64 v.n, .string v.s] 23)).heap.size := by simp
  obtain ⟨ak, an, sa⟩ := v
  simp only [V.val] at *
  go_enter Try.func7, Try.ntmps7
  go_wp2_with fail
  refine (lv _).mono ?_
  rintro e w1 ⟨rfl, hb1⟩
  have p0 := (hb1.cell (p := ⟨w.heap.size, 0, none⟩) y1).trans p0
  have p1 := (hb1.cell (p := ⟨w.heap.size, 1, none⟩) y1).trans p1
  have p2 := (hb1.cell (p := ⟨w.heap.size, 2, none⟩) y1).trans p2
  have y1 : w.heap.size < w1.heap.size := by have := hb1.size; omega
  have hR := below2 hR hb1
  have hsl := hsl.kept hb1
  clear hb1
  go_wp2_with fail
  refine (vwakes_any _).mono ?_
  rintro e w99 ⟨rfl, hb99⟩
  go_wp2_with fail
  go_ret
  exact ⟨rfl, below2 hR hb99⟩

set_option maxHeartbeats 800000 in
set_option maxRecDepth 100000 in
theorem back_2 (v : V) (L : List Pr) (a : Option Addr) (cap : Nat) (s : ByteArray) (w : World) (hsl : Sl w a L) (h0 : ¬ 5000 < v.s.size) (h1 : largeL L = true) :
    Calls Try.prog 7 #[v.val, .slice a L.length cap, .string s] w fun e w' => e = .returned (.bool true) ∧ Below w.heap.size w w' := by
  have lv := fun w => largeValue_any v w _ (decide_eq_false h0)
  have cL := fun w h => largeProps_any L a cap w h
  rw [h1] at cL
  clear h0 h1
  have hsl := hsl.kept (below_alloc1 w (.cells #[.int .i64 v.k, .int .i64 v.n, .string v.s] 23))
  obtain ⟨p0, p1, p2⟩ := B3.new w v 23 rfl
  have hR := below_alloc1 w (.cells #[.int .i64 v.k, .int .i64 v.n, .string v.s] 23)
  have y1 : w.heap.size < (w.alloc (.cells #[.int .i64 v.k, .int .i64 v.n, .string v.s] 23)).heap.size := by simp
  obtain ⟨ak, an, sa⟩ := v
  simp only [V.val] at *
  go_enter Try.func7, Try.ntmps7
  go_wp2_with fail
  refine (lv _).mono ?_
  rintro e w1 ⟨rfl, hb1⟩
  have p0 := (hb1.cell (p := ⟨w.heap.size, 0, none⟩) y1).trans p0
  have p1 := (hb1.cell (p := ⟨w.heap.size, 1, none⟩) y1).trans p1
  have p2 := (hb1.cell (p := ⟨w.heap.size, 2, none⟩) y1).trans p2
  have y1 : w.heap.size < w1.heap.size := by have := hb1.size; omega
  have hR := below2 hR hb1
  have hsl := hsl.kept hb1
  clear hb1
  go_wp2_with fail
  refine (cL _ hsl).mono ?_
  rintro e w2 ⟨rfl, hb2⟩
  have p0 := (hb2.cell (p := ⟨w.heap.size, 0, none⟩) y1).trans p0
  have p1 := (hb2.cell (p := ⟨w.heap.size, 1, none⟩) y1).trans p1
  have p2 := (hb2.cell (p := ⟨w.heap.size, 2, none⟩) y1).trans p2
  have y1 : w.heap.size < w2.heap.size := by have := hb2.size; omega
  have hR := below2 hR hb2
  have hsl := hsl.kept hb2
  clear hb2
  go_wp2_with fail
  refine (vwakes_any _).mono ?_
  rintro e w99 ⟨rfl, hb99⟩
  go_wp2_with fail
  go_ret
  exact ⟨rfl, below2 hR hb99⟩

set_option maxHeartbeats 800000 in
set_option maxRecDepth 100000 in
theorem back_3 (v : V) (L : List Pr) (a : Option Addr) (cap : Nat) (s : ByteArray) (w : World) (hsl : Sl w a L) (h0 : ¬ 5000 < v.s.size) (h1 : largeL L = false) (h2 : (100000 : Int) < (s.size : Int)) :
    Calls Try.prog 7 #[v.val, .slice a L.length cap, .string s] w fun e w' => e = .returned (.bool true) ∧ Below w.heap.size w w' := by
  have lv := fun w => largeValue_any v w _ (decide_eq_false h0)
  have cL := fun w h => largeProps_any L a cap w h
  rw [h1] at cL
  clear h0 h1
  have hsl := hsl.kept (below_alloc1 w (.cells #[.int .i64 v.k, .int .i64 v.n, .string v.s] 23))
  obtain ⟨p0, p1, p2⟩ := B3.new w v 23 rfl
  have hR := below_alloc1 w (.cells #[.int .i64 v.k, .int .i64 v.n, .string v.s] 23)
  have y1 : w.heap.size < (w.alloc (.cells #[.int .i64 v.k, .int .i64 v.n, .string v.s] 23)).heap.size := by simp
  obtain ⟨ak, an, sa⟩ := v
  simp only [V.val] at *
  go_enter Try.func7, Try.ntmps7
  go_wp2_with fail
  refine (lv _).mono ?_
  rintro e w1 ⟨rfl, hb1⟩
  have p0 := (hb1.cell (p := ⟨w.heap.size, 0, none⟩) y1).trans p0
  have p1 := (hb1.cell (p := ⟨w.heap.size, 1, none⟩) y1).trans p1
  have p2 := (hb1.cell (p := ⟨w.heap.size, 2, none⟩) y1).trans p2
  have y1 : w.heap.size < w1.heap.size := by have := hb1.size; omega
  have hR := below2 hR hb1
  have hsl := hsl.kept hb1
  clear hb1
  go_wp2_with fail
  refine (cL _ hsl).mono ?_
  rintro e w2 ⟨rfl, hb2⟩
  have p0 := (hb2.cell (p := ⟨w.heap.size, 0, none⟩) y1).trans p0
  have p1 := (hb2.cell (p := ⟨w.heap.size, 1, none⟩) y1).trans p1
  have p2 := (hb2.cell (p := ⟨w.heap.size, 2, none⟩) y1).trans p2
  have y1 : w.heap.size < w2.heap.size := by have := hb2.size; omega
  have hR := below2 hR hb2
  have hsl := hsl.kept hb2
  clear hb2
  go_wp2_with fail
  refine (vwakes_any _).mono ?_
  rintro e w99 ⟨rfl, hb99⟩
  go_wp2_with fail
  go_ret
  exact ⟨rfl, below2 hR hb99⟩

end Go.Proofs.Ytndbhalkhejgjaa

/- The walk of ValCodes. -/
import Derived.Test.YtndbhalkhejgjaaVOrder
import Derived.Test.YtndbhalkhejgjaaVRefDec2
namespace Go.Proofs.Ytndbhalkhejgjaa
open Go.RowKit
attribute [local go_sem ↓] Go.wp_at_zero Go.wp_at_succ

set_option maxHeartbeats 800000 in
set_option maxRecDepth 100000 in
theorem codes_large (v : V) (s : ByteArray) (p : Int) (w : World) (h : 5000 < v.s.size ∨ 100000 < s.size) :
    Calls Try.prog 4 #[v.val, .string s, .int .i64 p] w fun e w' => e = .returned (.bool true) ∧ Below w.heap.size w w' := by
  have cW := fun w => vwakes_any w
  have la := fun w => largeValue_any v w _ rfl
  by_cases ha : 5000 < v.s.size
  · rw [decide_eq_true ha] at la
    clear h ha
    obtain ⟨ak, an, sa⟩ := v
    simp only [V.val] at *
    go_enter Try.func4, Try.ntmps4
    go_wp2_with fail
    refine (la _).mono ?_
    rintro e w1 ⟨rfl, hb1⟩
    go_wp2_with fail
    refine (cW _).mono ?_
    rintro e w2 ⟨rfl, hb2⟩
    go_wp2_with fail
    go_ret
    exact ⟨rfl, below3 (below_alloc1 w _) hb1 hb2⟩
  · have hs' : (100000 : Int) < (s.size : Int) := by omega
    rw [decide_eq_false ha] at la
    clear h ha
    obtain ⟨ak, an, sa⟩ := v
    simp only [V.val] at *
    go_enter Try.func4, Try.ntmps4
    go_wp2_with fail
    refine (la _).mono ?_
    rintro e w1 ⟨rfl, hb1⟩
    go_wp2_with fail
    refine (cW _).mono ?_
    rintro e w2 ⟨rfl, hb2⟩
    go_wp2_with fail
    go_ret
    exact ⟨rfl, below3 (below_alloc1 w _) hb1 hb2⟩

set_option maxHeartbeats 4000000 in
set_option maxRecDepth 100000 in
theorem codes_in (v : V) (s : ByteArray) (p : Int) (w : World) (hn : -9223372036854775808 ≤ v.n ∧ v.n ≤ 9223372036854775807) (ha : ¬ 5000 < v.s.size) (hs : ¬ 100000 < s.size) :
    Calls Try.prog 4 #[v.val, .string s, .int .i64 p] w fun e w' => e = .returned (.bool true) ∧ Below w.heap.size w w' := by
  have cW := fun w => vwakes_any w
  have la := fun w => largeValue_any v w _ (decide_eq_false ha)
  have k1 := fun w => decode_any s p w (by omega)
  have k2 := fun w => refDecode_any s p w (by omega)
  have k3 := fun w => encode_any v w hn
  have k4 := fun w => refEncode_any v w hn
  have k5 := fun w => keepValue_any (decV s p).1 (decV s p).1 w
  rw [eqV_refl] at k5
  have hs' : ¬ (100000 : Int) < (s.size : Int) := by omega
  clear ha hs hn
  generalize ba (encV v) = E at *
  generalize decV s p = d at *
  obtain ⟨⟨dk, dn, ds⟩, dj, dok⟩ := d
  obtain ⟨ak, an, sa⟩ := v
  simp only [V.val, gotW, gotG] at *
  go_enter Try.func4, Try.ntmps4
  go_wp2_with fail
  refine (la _).mono ?_
  rintro e w1 ⟨rfl, hb1⟩
  have A1 : B3 w1 w.heap.size ⟨ak, an, sa⟩ := (B3.new w ⟨ak, an, sa⟩ _ rfl).kept hb1 (by simp)
  have hz1 : w.heap.size < w1.heap.size := by have := hb1.size; simp at this; omega
  go_wp2_with fail
  refine (k1 _).mono ?_
  rintro e w2 ⟨rfl, hb2⟩
  have A2 := A1.kept hb2 hz1
  have hz2 : w.heap.size < w2.heap.size := by have := hb2.size; omega
  go_wp2_with fail
  refine (k2 _).mono ?_
  rintro e w3 ⟨rfl, hb3⟩
  have A3 := (A2.kept (below_alloc1 w2 _) hz2).kept hb3 (by simp; omega)
  have D3 := (B3.new w2 ⟨dk, dn, ds⟩ 23 rfl).kept hb3 (by simp)
  have hz3 : w2.heap.size < w3.heap.size := by have := hb3.size; simp at this; omega
  have hR0 : Below w.heap.size w w3 := below3 (below3 (below_alloc1 w _) hb1 hb2) (below_alloc1 _ _) hb3
  obtain ⟨W0, hW0⟩ : ∃ W0, W0 = w3.alloc (.cells #[.int .i64 dk, .int .i64 dn, .string ds, .int .i64 (dj : Int), .bool dok] 32) := ⟨_, rfl⟩
  have A4 : B3 W0 w.heap.size ⟨ak, an, sa⟩ := by rw [hW0]; exact A3.kept (below_alloc1 w3 _) (by omega)
  have D4 : B3 W0 w2.heap.size ⟨dk, dn, ds⟩ := by rw [hW0]; exact D3.kept (below_alloc1 w3 _) hz3
  have G4 : B5 W0 w3.heap.size (.int .i64 dk) (.int .i64 dn) (.string ds) (.int .i64 (dj : Int)) (.bool dok) := by rw [hW0]; exact B5.new w3 _ _ _ _ _ _ rfl
  have hR : Below w.heap.size w W0 := by rw [hW0]; exact below2 hR0 (below_alloc1 w3 _)
  have y0 : w.heap.size < W0.heap.size := by rw [hW0]; simp; omega
  have y1 : w2.heap.size < W0.heap.size := by rw [hW0]; simp; omega
  have y2 : w3.heap.size < W0.heap.size := by rw [hW0]; simp
  clear A1 A2 A3 D3 hb1 hb2 hb3 hR0 hz1 hz2 hz3 la k1 k2
  obtain ⟨a0, a1, a2⟩ := A4
  obtain ⟨d0, d1, d2⟩ := D4
  obtain ⟨g0, g1, g2, g3, g4, _, _, _, _, _⟩ := G4
  simp only at a0 a1 a2 d0 d1 d2
  go_wp2_with fail
  rw [← hW0]
  clear hW0
  go_region_held3 (fun W => W.cell? ⟨w.heap.size, 0, none⟩ = some (.int .i64 ak) ∧ W.cell? ⟨w.heap.size, 1, none⟩ = some (.int .i64 an) ∧ W.cell? ⟨w.heap.size, 2, none⟩ = some (.string sa) ∧ W.cell? ⟨w2.heap.size, 0, none⟩ = some (.int .i64 dk) ∧ W.cell? ⟨w2.heap.size, 1, none⟩ = some (.int .i64 dn) ∧ W.cell? ⟨w2.heap.size, 2, none⟩ = some (.string ds) ∧ W.cell? ⟨w3.heap.size, 0, none⟩ = some (.int .i64 dk) ∧ W.cell? ⟨w3.heap.size, 1, none⟩ = some (.int .i64 dn) ∧ W.cell? ⟨w3.heap.size, 2, none⟩ = some (.string ds) ∧ W.cell? ⟨w3.heap.size, 3, none⟩ = some (.int .i64 (dj : Int)) ∧ W.cell? ⟨w3.heap.size, 4, none⟩ = some (.bool dok))
    (first | exact ⟨(hB.cell (p := ⟨w.heap.size, 0, none⟩) y0).trans a0, (hB.cell (p := ⟨w.heap.size, 1, none⟩) y0).trans a1, (hB.cell (p := ⟨w.heap.size, 2, none⟩) y0).trans a2, (hB.cell (p := ⟨w2.heap.size, 0, none⟩) y1).trans d0, (hB.cell (p := ⟨w2.heap.size, 1, none⟩) y1).trans d1, (hB.cell (p := ⟨w2.heap.size, 2, none⟩) y1).trans d2, (hB.cell (p := ⟨w3.heap.size, 0, none⟩) y2).trans g0, (hB.cell (p := ⟨w3.heap.size, 1, none⟩) y2).trans g1, (hB.cell (p := ⟨w3.heap.size, 2, none⟩) y2).trans g2, (hB.cell (p := ⟨w3.heap.size, 3, none⟩) y2).trans g3, (hB.cell (p := ⟨w3.heap.size, 4, none⟩) y2).trans g4⟩ | go_keep)
    ((first
      | (go_at_call 19; refine (k3 _).mono ?_; rintro e wA ⟨rfl, hbA⟩; first | have hB := drew_below hbA | have hB := below2 hB hbA)
      | (go_at_call 20; refine (k4 _).mono ?_; rintro e wA ⟨rfl, hbA⟩; first | have hB := drew_below hbA | have hB := below2 hB hbA)
      | (go_at_call 21; refine (k5 _).mono ?_; rintro e wA ⟨rfl, hbA⟩; first | have hB := drew_below hbA | have hB := below2 hB hbA)
      | (go_at_call 10; refine (cW _).mono ?_; rintro e wA ⟨rfl, hbA⟩; first | have hB := drew_below hbA | have hB := below2 hB hbA)))
  all_goals go_wp2_with fail
  all_goals go_ret
  all_goals exact ⟨rfl, below2 hR hB⟩

set_option maxRecDepth 100000 in
theorem codes_open (v1 : Value) (s : ByteArray) (p : Int) (W : World) {H : Type} {enc : TypeId × Value → H} {base : Nat} {d1 : DataW H} {p1 : List MemPlace}
    (hv1 : Value.okWide Try.prog W .any base 23 v1) (h1 : DataW.Trod enc Try.prog W 0 (fun _ => true) true 23 v1 d1 p1) (_hs : s.size ≤ maxLen) (_hp : -9223372036854775808 ≤ p ∧ p ≤ 9223372036854775807) :
    Calls Try.prog 4 #[v1, .string s, .int .i64 p] W fun e w' => e = .returned (.bool true) ∧ Below W.heap.size W w' := by
  obtain ⟨a, rfl, hok, _⟩ := open_value hv1 h1
  by_cases h : 5000 < a.s.size ∨ 100000 < s.size
  · exact codes_large a s p W h
  · exact codes_in a s p W ⟨hok.n0, hok.n1⟩ (by omega) (by omega)

end Go.Proofs.Ytndbhalkhejgjaa

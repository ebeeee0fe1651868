/- The walk of ValSets. -/
import Derived.Test.YtndbhalkhejgjaaVOrder
import Derived.Test.YtndbhalkhejgjaaVSl
import Derived.Test.YtndbhalkhejgjaaVRefDec2
namespace Go.Proofs.Ytndbhalkhejgjaa
open Go.RowKit
attribute [local go_sem ↓] Go.wp_at_zero Go.wp_at_succ

set_option maxHeartbeats 800000 in
set_option maxRecDepth 100000 in
theorem sets_large (L : List Pr) (a : Option Addr) (cap : Nat) (name : ByteArray) (v : V) (w : World) (hsl : Sl w a L) (h : largeL L = true ∨ 1000 < name.size ∨ 5000 < v.s.size) :
    Calls Try.prog 6 #[.slice a L.length cap, .string name, v.val] w fun e w' => e = .returned (.bool true) ∧ Below w.heap.size w w' := by
  have cW := fun w => vwakes_any w
  have cL := fun w h => largeProps_any L a cap w h
  have la := fun w => largeValue_any v w _ rfl
  have hsl1 := hsl.kept (below_alloc1 w (.cells #[.int .i64 v.k, .int .i64 v.n, .string v.s] 23))
  cases hL : largeL L with
  | true =>
    rw [hL] at cL
    clear h hL
    obtain ⟨ak, an, sa⟩ := v
    simp only [V.val] at *
    go_enter Try.func6, Try.ntmps6
    go_wp2_with fail
    refine (cL _ hsl1).mono ?_
    rintro e w1 ⟨rfl, hb1⟩
    go_wp2_with fail
    refine (cW _).mono ?_
    rintro e w2 ⟨rfl, hb2⟩
    go_wp2_with fail
    go_ret
    exact ⟨rfl, below3 (below_alloc1 w _) hb1 hb2⟩
  | false =>
    rw [hL] at cL
    by_cases hn : 1000 < name.size
    · have hn' : (1000 : Int) < (name.size : Int) := by omega
      clear h hL hn
      obtain ⟨ak, an, sa⟩ := v
      simp only [V.val] at *
      go_enter Try.func6, Try.ntmps6
      go_wp2_with fail
      refine (cL _ hsl1).mono ?_
      rintro e w1 ⟨rfl, hb1⟩
      go_wp2_with fail
      refine (cW _).mono ?_
      rintro e w2 ⟨rfl, hb2⟩
      go_wp2_with fail
      go_ret
      exact ⟨rfl, below3 (below_alloc1 w _) hb1 hb2⟩
    · have hn' : ¬ (1000 : Int) < (name.size : Int) := by omega
      have hv : 5000 < v.s.size := by
        rcases h with h | h | h
        · rw [hL] at h; cases h
        · omega
        · exact h
      rw [decide_eq_true hv] at la
      clear h hL hn hv
      obtain ⟨ak, an, sa⟩ := v
      simp only [V.val] at *
      go_enter Try.func6, Try.ntmps6
      go_wp2_with fail
      refine (cL _ hsl1).mono ?_
      rintro e w1 ⟨rfl, hb1⟩
      obtain ⟨hc1, _⟩ := bcell hb1
      go_wp2_with fail
      refine (la _).mono ?_
      rintro e w2 ⟨rfl, hb2⟩
      go_wp2_with fail
      refine (cW _).mono ?_
      rintro e w3 ⟨rfl, hb3⟩
      go_wp2_with fail
      go_ret
      exact ⟨rfl, below3 (below2 (below_alloc1 w _) hb1) hb2 hb3⟩

theorem setGo_length (set : Pr) (l : List Pr) (pl : Bool) : (setGo set l pl).length ≤ l.length + 1 := by
  induction l generalizing pl with
  | nil => cases pl <;> simp [setGo]
  | cons p l ih =>
    by_cases h : p.name = set.name
    · rw [setGo_eq _ _ _ _ h]
      have := ih pl
      simp
      omega
    · cases pl with
      | true => rw [setGo_on _ _ _ h]; have := ih true; simp; omega
      | false =>
        cases hl : ltS set.name p.name with
        | true =>
          rw [setGo_at _ _ _ h hl]
          have : ∀ l : List Pr, (setGo set l true).length ≤ l.length := by
            intro l
            induction l with
            | nil => simp [setGo]
            | cons q l ih2 =>
              by_cases h2 : q.name = set.name
              · rw [setGo_eq _ _ _ _ h2]; simp; omega
              · rw [setGo_on _ _ _ h2]; simp; omega
          have := this l
          simp
          omega
        | false => rw [setGo_no _ _ _ h hl]; have := ih false; simp; omega

theorem setL_length (L : List Pr) (name : ByteArray) (v : V) : (setL L name v).length ≤ L.length + 1 := setGo_length _ _ _

set_option maxHeartbeats 4000000 in
set_option maxRecDepth 100000 in
theorem sets_in (L : List Pr) (a : Option Addr) (cap : Nat) (name : ByteArray) (v : V) (w : World) (hsl : Sl w a L) (hcap : a = none → cap = 0) (hL : largeL L = false) (hn : ¬ 1000 < name.size) (hv : ¬ 5000 < v.s.size) :
    Calls Try.prog 6 #[.slice a L.length cap, .string name, v.val] w fun e w' => e = .returned (.bool true) ∧ Below w.heap.size w w' := by
  obtain ⟨h60, hsm⟩ := largeL_no hL
  have hS : ∀ p ∈ L, smallP p := fun p hp => ⟨by have := (hsm p hp).1; omega, by have := (hsm p hp).2; omega⟩
  have cW := fun w => vwakes_any w
  have cL := fun w h => largeProps_any L a cap w h
  rw [hL] at cL
  have la := fun w => largeValue_any v w _ (decide_eq_false hv)
  have cF := fun w h => few_any L a cap w h hcap (by omega)
  have cG := fun a' c' w h => vget_any L a' c' name w h hS (by omega)
  have cRG := fun w h => vrefGet_any L a cap name w h (by omega)
  have cS := fun a' c' w h => vset_any L a' c' name v w h hS (by omega) (by omega) (by omega)
  have cRS := fun w h => vrefSet_any L a cap name v w h (by omega)
  have hRl : (setL L name v).length ≤ 1000000 := by have := setL_length L name v; omega
  have cKR := fun aX aY cX cY w h h' => keepProps_any (setL L name v) aX aY cX cY w h h' hRl
  have cKI := fun aX cX w h h' => keepProps_any L aX a cX cap w h h' (by omega)
  have cKV := fun w => keepValue_any (getL L name).1 (getL L name).1 w
  rw [eqV_refl] at cKV
  have hn' : ¬ (1000 : Int) < (name.size : Int) := by omega
  have hsl1 := hsl.kept (below_alloc1 w (.cells #[.int .i64 v.k, .int .i64 v.n, .string v.s] 23))
  clear hL hn hv hsm hS h60 hcap hRl
  generalize setL L name v = R at *
  generalize getL L name = G at *
  obtain ⟨⟨dk, dn, ds⟩, dok⟩ := G
  obtain ⟨ak, an, sa⟩ := v
  simp only [V.val] at *
  go_enter Try.func6, Try.ntmps6
  go_wp2_with fail
  refine (cL _ hsl1).mono ?_
  rintro e w1 ⟨rfl, hb1⟩
  have A1 : B3 w1 w.heap.size ⟨ak, an, sa⟩ := (B3.new w ⟨ak, an, sa⟩ _ rfl).kept hb1 (by simp)
  have z1 : w.heap.size < w1.heap.size := by have := hb1.size; simp at this; omega
  have s1 := hsl1.kept hb1
  obtain ⟨q0, q1, q2⟩ := A1
  simp only at q0 q1 q2
  go_wp2_with fail
  refine (la _).mono ?_
  rintro e w2 ⟨rfl, hb2⟩
  have A2 : B3 w2 w.heap.size ⟨ak, an, sa⟩ := B3.kept ⟨q0, q1, q2⟩ hb2 z1
  have z2 : w.heap.size < w2.heap.size := by have := hb2.size; omega
  have s2 := s1.kept hb2
  clear q0 q1 q2
  go_wp2_with fail
  refine (cF _ s2).mono ?_
  rintro e w3 ⟨a', c', rfl, i3, hb3⟩
  have A3 := A2.kept hb3 z2
  have z3 : w.heap.size < w3.heap.size := by have := hb3.size; omega
  have s3 := s2.kept hb3
  go_wp2_with fail
  refine (cG a' c' _ i3).mono ?_
  rintro e w4 ⟨rfl, hb4⟩
  have A4 := A3.kept hb4 z3
  have z4 : w.heap.size < w4.heap.size := by have := hb4.size; omega
  have s4 := (s3.kept hb4).kept (below_alloc1 w4 (.cells #[.int .i64 dk, .int .i64 dn, .string ds] 23))
  have i4 := (i3.kept hb4).kept (below_alloc1 w4 (.cells #[.int .i64 dk, .int .i64 dn, .string ds] 23))
  go_wp2_with fail
  refine (cRG _ s4).mono ?_
  rintro e w5 ⟨rfl, hb5⟩
  have A5 := (A4.kept (below_alloc1 w4 _) z4).kept hb5 (by simp; omega)
  have D5 := (B3.new w4 ⟨dk, dn, ds⟩ 23 rfl).kept hb5 (by simp)
  have z5 : w4.heap.size < w5.heap.size := by have := hb5.size; simp at this; omega
  have hR5 : Below w.heap.size w w5 := below3 (below3 (below3 (below_alloc1 w _) hb1 hb2) hb3 hb4) (below_alloc1 _ _) hb5
  obtain ⟨W0, hW0⟩ : ∃ W0, W0 = w5.alloc (.cells #[.int .i64 dk, .int .i64 dn, .string ds, .bool dok] 55) := ⟨_, rfl⟩
  have A6 : B3 W0 w.heap.size ⟨ak, an, sa⟩ := by rw [hW0]; exact A5.kept (below_alloc1 w5 _) (by omega)
  have D6 : B3 W0 w4.heap.size ⟨dk, dn, ds⟩ := by rw [hW0]; exact D5.kept (below_alloc1 w5 _) z5
  have G6 : B4 W0 w5.heap.size (.int .i64 dk) (.int .i64 dn) (.string ds) (.bool dok) := by rw [hW0]; exact B4.new w5 _ _ _ _ _ rfl
  have s6 : Sl W0 a L := by rw [hW0]; exact (s4.kept hb5).kept (below_alloc1 w5 _)
  have i6 : Sl W0 a' L := by rw [hW0]; exact (i4.kept hb5).kept (below_alloc1 w5 _)
  have hR : Below w.heap.size w W0 := by rw [hW0]; exact below2 hR5 (below_alloc1 w5 _)
  have y0 : w.heap.size < W0.heap.size := by rw [hW0]; simp; omega
  have y1 : w4.heap.size < W0.heap.size := by rw [hW0]; simp; omega
  have y2 : w5.heap.size < W0.heap.size := by rw [hW0]; simp
  have hdr : Below W0.heap.size W0 W0.drew := (Below.refl _ W0).drew
  have s6' := s6.kept hdr
  have i6' := i6.kept hdr
  clear A2 A3 A4 A5 D5 hb1 hb2 hb3 hb4 hb5 hR5 z1 z2 z3 z4 z5 s1 s2 s3 s4 i3 i4 la cL cF cG cRG hsl hsl1 hdr
  obtain ⟨a0, a1, a2⟩ := A6
  obtain ⟨d0, d1, d2⟩ := D6
  obtain ⟨g0, g1, g2, g3, _, _, _, _⟩ := G6
  simp only at a0 a1 a2 d0 d1 d2
  go_wp2_with fail
  rw [← hW0]
  clear hW0
  go_region_held3 (fun W => W.cell? ⟨w.heap.size, 0, none⟩ = some (.int .i64 ak) ∧ W.cell? ⟨w.heap.size, 1, none⟩ = some (.int .i64 an) ∧ W.cell? ⟨w.heap.size, 2, none⟩ = some (.string sa) ∧ W.cell? ⟨w4.heap.size, 0, none⟩ = some (.int .i64 dk) ∧ W.cell? ⟨w4.heap.size, 1, none⟩ = some (.int .i64 dn) ∧ W.cell? ⟨w4.heap.size, 2, none⟩ = some (.string ds) ∧ W.cell? ⟨w5.heap.size, 0, none⟩ = some (.int .i64 dk) ∧ W.cell? ⟨w5.heap.size, 1, none⟩ = some (.int .i64 dn) ∧ W.cell? ⟨w5.heap.size, 2, none⟩ = some (.string ds) ∧ W.cell? ⟨w5.heap.size, 3, none⟩ = some (.bool dok))
    (first | exact ⟨(hB.cell (p := ⟨w.heap.size, 0, none⟩) y0).trans a0, (hB.cell (p := ⟨w.heap.size, 1, none⟩) y0).trans a1, (hB.cell (p := ⟨w.heap.size, 2, none⟩) y0).trans a2, (hB.cell (p := ⟨w4.heap.size, 0, none⟩) y1).trans d0, (hB.cell (p := ⟨w4.heap.size, 1, none⟩) y1).trans d1, (hB.cell (p := ⟨w4.heap.size, 2, none⟩) y1).trans d2, (hB.cell (p := ⟨w5.heap.size, 0, none⟩) y2).trans g0, (hB.cell (p := ⟨w5.heap.size, 1, none⟩) y2).trans g1, (hB.cell (p := ⟨w5.heap.size, 2, none⟩) y2).trans g2, (hB.cell (p := ⟨w5.heap.size, 3, none⟩) y2).trans g3⟩ | go_keep)
    ((first
      | (go_at_call 33; (first | refine (cS a' c' _ i6').mono ?_ | refine (cS a' c' _ (i6.kept hB)).mono ?_); rintro e wA ⟨aX, cX, rfl, slX, hbA⟩; first | have hB := drew_below hbA | (have hB := below2 hB hbA; have slY := slY.kept hbA))
      | (go_at_call 34; (first | refine (cRS _ s6').mono ?_ | refine (cRS _ (s6.kept hB)).mono ?_); rintro e wA ⟨aY, cY, rfl, slY, hbA⟩; first | have hB := drew_below hbA | (have hB := below2 hB hbA; have slX := slX.kept hbA))
      | (go_at_call_of 30 (Value.slice aX R.length cX); refine (cKR aX aY cX cY _ slX slY).mono ?_; rintro e wA ⟨rfl, hbA⟩; have hB := below2 hB hbA)
      | (go_at_call_of 30 (Value.slice a' L.length c'); refine (cKI a' c' _ (i6.kept hB) (s6.kept hB)).mono ?_; rintro e wA ⟨rfl, hbA⟩; have hB := below2 hB hbA)
      | (go_at_call 21; refine (cKV _).mono ?_; rintro e wA ⟨rfl, hbA⟩; have hB := below2 hB hbA)
      | (go_at_call 10; refine (cW _).mono ?_; rintro e wA ⟨rfl, hbA⟩; have hB := below2 hB hbA)))
  all_goals go_wp2_with fail
  all_goals go_ret
  all_goals exact ⟨rfl, below2 hR hB⟩

set_option maxRecDepth 100000 in
theorem sets_open (v0 : Value) (name : ByteArray) (v2 : Value) (W : World) {H : Type} {enc : TypeId × Value → H} {base : Nat} {d0 d2 : DataW H} {p0 p2 : List MemPlace}
    (hv0 : Value.okWide Try.prog W .any base 37 v0) (h0 : DataW.Trod enc Try.prog W 0 (fun _ => true) true 37 v0 d0 p0) (_hs : name.size ≤ maxLen)
    (hv2 : Value.okWide Try.prog W .any base 23 v2) (h2 : DataW.Trod enc Try.prog W 0 (fun _ => true) true 23 v2 d2 p2) :
    Calls Try.prog 6 #[v0, .string name, v2] W fun e w' => e = .returned (.bool true) ∧ Below W.heap.size W w' := by
  obtain ⟨a, L, cap, rfl, hsl, _, _, hcap⟩ := open_props hv0 h0
  obtain ⟨v, rfl, _⟩ := open_value hv2 h2
  by_cases h : largeL L = true ∨ 1000 < name.size ∨ 5000 < v.s.size
  · exact sets_large L a cap name v W hsl h
  · exact sets_in L a cap name v W hsl hcap (by cases hL : largeL L with | false => rfl | true => exact absurd (Or.inl hL) h) (by omega) (by omega)

end Go.Proofs.Ytndbhalkhejgjaa

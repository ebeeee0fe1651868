/- The walk of ValProps. -/
import Derived.Test.YtndbhalkhejgjaaVWakes
import Derived.Test.YtndbhalkhejgjaaVKeep
import Derived.Test.YtndbhalkhejgjaaVRefSet
import Derived.Test.YtndbhalkhejgjaaVEncProps
import Derived.Test.YtndbhalkhejgjaaVRefEncProps
import Derived.Test.YtndbhalkhejgjaaVRefDecProps2
import Derived.Laws.Cover1
namespace Go.Proofs.Ytndbhalkhejgjaa
open Go.RowKit
attribute [local go_sem ↓] Go.wp_at_zero Go.wp_at_succ

set_option maxHeartbeats 800000 in
set_option maxRecDepth 100000 in
theorem props_large (L : List Pr) (a : Option Addr) (cap : Nat) (s : ByteArray) (p : Int) (w : World) (hsl : Sl w a L) (h : largeL L = true ∨ 100000 < s.size) :
    Calls Try.prog 5 #[.slice a L.length cap, .string s, .int .i64 p] w fun e w' => e = .returned (.bool true) ∧ Below w.heap.size w w' := by
  have cW := fun w => vwakes_any w
  have cL := fun w h => largeProps_any L a cap w h
  cases hL : largeL L with
  | true =>
    rw [hL] at cL
    clear h hL
    go_enter Try.func5, Try.ntmps5
    go_wp2_with fail
    refine (cL _ hsl).mono ?_
    rintro e w1 ⟨rfl, hb1⟩
    go_wp2_with fail
    refine (cW _).mono ?_
    rintro e w2 ⟨rfl, hb2⟩
    go_wp2_with fail
    go_ret
    exact ⟨rfl, below2 hb1 hb2⟩
  | false =>
    rw [hL] at cL
    have hs : (100000 : Int) < (s.size : Int) := by
      rcases h with h | h
      · rw [hL] at h; cases h
      · omega
    clear h hL
    go_enter Try.func5, Try.ntmps5
    go_wp2_with fail
    refine (cL _ hsl).mono ?_
    rintro e w1 ⟨rfl, hb1⟩
    go_wp2_with fail
    refine (cW _).mono ?_
    rintro e w2 ⟨rfl, hb2⟩
    go_wp2_with fail
    go_ret
    exact ⟨rfl, below2 hb1 hb2⟩

set_option maxHeartbeats 4000000 in
set_option maxRecDepth 100000 in
theorem props_in (L : List Pr) (a : Option Addr) (cap : Nat) (s : ByteArray) (p : Int) (w : World) (hsl : Sl w a L) (hcap : a = none → cap = 0) (hN : ∀ p ∈ L, -9223372036854775808 ≤ p.v.n ∧ p.v.n ≤ 9223372036854775807) (hL : largeL L = false) (hs : ¬ 100000 < s.size) :
    Calls Try.prog 5 #[.slice a L.length cap, .string s, .int .i64 p] w fun e w' => e = .returned (.bool true) ∧ Below w.heap.size w w' := by
  obtain ⟨h60, hsm⟩ := largeL_no hL
  have hS : ∀ p ∈ L, smallP p := fun p hp => ⟨by have := (hsm p hp).1; omega, by have := (hsm p hp).2; omega⟩
  have cW := fun w => vwakes_any w
  have cL := fun w h => largeProps_any L a cap w h
  rw [hL] at cL
  have cF := fun w h => few_any L a cap w h hcap (by omega)
  have cE := fun a' c' w h => encProps_any L a' c' w h hN
  have cRE := fun w h => refEncProps_any L a cap w h hS hN
  have cD := fun w => decodeProps_any s p w (by omega)
  have cRD := fun w => refDecodeProps_any s p w (by omega)
  have cP := fun a' c' w h => props_any L a' c' w h
  have cRP := fun w h => refProps_any L a cap w h hS
  have hl8 : (decL s p).1.length ≤ 1000000 := by
    unfold decL
    split
    · rename_i hg
      unfold decE
      split
      · rename_i l e he
        split
        · rename_i hp
          have := (props_parts hp).1
          simp only
          omega
        · simp
      · simp
    · simp
  have cKD := fun aX aY cX cY w h h' => keepProps_any (decL s p).1 aX aY cX cY w h h' hl8
  have cKI := fun aX cX w h h' => keepProps_any L aX a cX cap w h h' (by omega)
  have hs' : ¬ (100000 : Int) < (s.size : Int) := by omega
  clear hL hs hsm hS h60 hcap hN hl8
  generalize decL s p = d at *
  generalize encR L = r at *
  generalize propsB L = g at *
  obtain ⟨D, dz, dok⟩ := d
  obtain ⟨R, rc⟩ := r
  simp only at *
  go_enter Try.func5, Try.ntmps5
  go_wp2_with fail
  refine (cL _ hsl).mono ?_
  rintro e w1 ⟨rfl, hb1⟩
  have hsl := hsl.kept hb1
  have hR := hb1
  go_wp2_with fail
  refine (cF _ hsl).mono ?_
  rintro e w2 ⟨a', c', rfl, sli, hb2⟩
  have hsl := hsl.kept hb2
  have hR := below2 hR hb2
  go_wp2_with fail
  refine (cE a' c' _ sli).mono ?_
  rintro e w3 ⟨rfl, hb3⟩
  have hsl := hsl.kept hb3
  have sli := sli.kept hb3
  have hR := below2 hR hb3
  go_wp2_with fail
  refine (cRE _ hsl).mono ?_
  rintro e w4 ⟨rfl, hb4⟩
  have hsl := hsl.kept hb4
  have sli := sli.kept hb4
  have hR := below2 hR hb4
  go_wp2_with fail
  refine (cD _).mono ?_
  rintro e w5 ⟨aX, cX, rfl, slX, hb5⟩
  have hsl := hsl.kept hb5
  have sli := sli.kept hb5
  have hR := below2 hR hb5
  go_wp2_with fail
  refine (cRD _).mono ?_
  rintro e w6 ⟨aY, cY, rfl, slY, hb6⟩
  have hb6' := below_alloc1 w6 (.cells #[.slice aY D.length cY, .int .i64 (dz : Int), .bool dok] 48)
  have hsl := (hsl.kept hb6).kept hb6'
  have sli := (sli.kept hb6).kept hb6'
  have slX := (slX.kept hb6).kept hb6'
  have slY := slY.kept hb6'
  have hR := below2 (below2 hR hb6) hb6'
  have hG := R3.new w6 (.slice aY D.length cY) (.int .i64 (dz : Int)) (.bool dok) 48 rfl
  have y : w6.heap.size < (w6.alloc (.cells #[.slice aY D.length cY, .int .i64 (dz : Int), .bool dok] 48)).heap.size := by simp
  obtain ⟨W, hW⟩ : ∃ W, W = w6.alloc (.cells #[.slice aY D.length cY, .int .i64 (dz : Int), .bool dok] 48) := ⟨_, rfl⟩
  clear cL cF cE cRE cD cRD hb1 hb2 hb3 hb4 hb5 hb6 hb6'
  rw [← hW] at hsl sli slX slY hR hG y
  go_wp2_with fail
  rw [← hW]
  clear hW
  refine (cP a' c' _ sli).mono ?_
  rintro e w7 ⟨rfl, hb7⟩
  have hsl := hsl.kept hb7
  have sli := sli.kept hb7
  have slX := slX.kept hb7
  have slY := slY.kept hb7
  have hR := below2 hR hb7
  have hG := hG.kept hb7 y
  have y : w6.heap.size < w7.heap.size := by have := hb7.size; omega
  clear hb7
  go_wp2_with fail
  refine (cRP _ hsl).mono ?_
  rintro e w8 ⟨rfl, hb8⟩
  have hsl := hsl.kept hb8
  have sli := sli.kept hb8
  have slX := slX.kept hb8
  have slY := slY.kept hb8
  have hR := below2 hR hb8
  have hG := hG.kept hb8 y
  have y : w6.heap.size < w8.heap.size := by have := hb8.size; omega
  clear hb8
  obtain ⟨g0, g1, g2, -, -, -⟩ := id hG
  go_wp2_with fail
  refine (cKD aX aY cX cY _ slX slY).mono ?_
  rintro e w9 ⟨rfl, hb9⟩
  have hsl := hsl.kept hb9
  have sli := sli.kept hb9
  have hR := below2 hR hb9
  have hG := hG.kept hb9 y
  clear hb9 g0 g1 g2
  obtain ⟨g0, g1, g2, -, -, -⟩ := id hG
  go_wp2_with fail
  refine (cKI a' c' _ sli hsl).mono ?_
  rintro e w10 ⟨rfl, hb10⟩
  have hR := below2 hR hb10
  go_wp2_with fail
  refine (cW _).mono ?_
  rintro e w11 ⟨rfl, hb11⟩
  go_wp2_with fail
  go_ret
  exact ⟨rfl, below2 hR hb11⟩

set_option maxRecDepth 100000 in
theorem props_open (v0 : Value) (s : ByteArray) (p : Int) (W : World) {H : Type} {enc : TypeId × Value → H} {base : Nat} {d0 : DataW H} {p0 : List MemPlace}
    (hv0 : Value.okWide Try.prog W .any base 37 v0) (h0 : DataW.Trod enc Try.prog W 0 (fun _ => true) true 37 v0 d0 p0) (_hs : s.size ≤ maxLen) (_hp : -9223372036854775808 ≤ p ∧ p ≤ 9223372036854775807) :
    Calls Try.prog 5 #[v0, .string s, .int .i64 p] W fun e w' => e = .returned (.bool true) ∧ Below W.heap.size W w' := by
  obtain ⟨a, L, cap, rfl, hsl, hok, _, hcap⟩ := open_props hv0 h0
  by_cases h : largeL L = true ∨ 100000 < s.size
  · exact props_large L a cap s p W hsl h
  · exact props_in L a cap s p W hsl hcap (fun p hp => ⟨(hok p hp).1.n0, (hok p hp).1.n1⟩) (by cases hL : largeL L with | false => rfl | true => exact absurd (Or.inl hL) h) (by omega)

end Go.Proofs.Ytndbhalkhejgjaa

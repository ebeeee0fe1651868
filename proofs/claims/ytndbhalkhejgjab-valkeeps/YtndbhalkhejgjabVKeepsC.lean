/- ValKeeps: the good ones. -/
import Derived.Test.YtndbhalkhejgjabVKeepsA
import Derived.Test.YtndbhalkhejgjabVKeepsMath
import Derived.Test.YtndbhalkhejgjabVPropsC
import Derived.Lib.Walk
import Derived.Laws.Cover1
namespace Go.Proofs.Ytndbhalkhejgjab
open Go.RowKit
attribute [local go_sem ↓] Go.wp_at_zero Go.wp_at_succ

set_option maxHeartbeats 4000000 in
set_option maxRecDepth 100000 in
theorem keeps_C (cW : Wakes) (L : List Pr) (a : Option Addr) (cap : Nat) (s0 s1 : ByteArray) (v : V) (w : World) (hsl : Sl w a L) (hcap : a = none → cap = 0) (h0 : largeL L = false) (h1 : ¬ (1000 : Int) < (s0.size : Int)) (h2 : ¬ (1000 : Int) < (s1.size : Int)) (h3 : ¬ 5000 < v.s.size) (h4 : propsB L = true) (h5 : nameB s0 = true) (h6 : goodB v = true) (h8 : (setL L s0 v).length ≤ 8) (he : s1 ≠ s0) :
    Calls Try.prog 3 #[.slice a L.length cap, .agg #[.string s0, .string s1], v.val] w fun e w' => e = .returned (.bool true) ∧ Below w.heap.size w w' := by
  obtain ⟨m1, m2, m3, m4, m5, m6, m7, m8, m9⟩ := keeps_math L s0 s1 v h4 h5 h6
  have hS : ∀ p ∈ L, smallP p := fun p hp => ⟨by have := ((largeL_no h0).2 p hp).1; omega, by have := ((largeL_no h0).2 p hp).2; omega⟩
  have h60 := (largeL_no h0).1
  have hSR : ∀ p ∈ setL L s0 v, smallP p := by
    intro p hp
    rcases m8 p hp with rfl | h
    · exact ⟨by simp only; omega, by simp only; omega⟩
    · exact hS p h
  have hSG : ∀ p ∈ setL (setL L s0 v) s0 noV, smallP p := fun p hp => hS p (m9 p hp)
  have cL := fun w h => largeProps_any L a cap w h
  rw [h0] at cL
  have lv := fun w => largeValue_any v w _ (decide_eq_false h3)
  have cP := fun w h => refProps_any L a cap w h hS
  rw [h4] at cP
  have cN := fun w => refName_any s0 w (by omega)
  rw [h5] at cN
  have gv := fun w => refGood_any v w
  rw [h6] at gv
  have cF := fun w h => few_any L a cap w h hcap (by omega)
  have cS := fun a' c' w h => vset_any L a' c' s0 v w h hS (by omega) (by omega) (by omega)
  have cG1 := fun a' c' w h => vget_any (setL L s0 v) a' c' s0 w h hSR (by omega)
  rw [m1] at cG1
  have cD := fun a' c' w h => vset_any (setL L s0 v) a' c' s0 noV w h hSR (Nat.zero_le _) (by omega) (by omega)
  have cG2 := fun a' c' w h => vget_any (setL (setL L s0 v) s0 noV) a' c' s0 w h hSG (by omega)
  rw [m6] at cG2
  have cPG := fun a' c' w h => props_any (setL (setL L s0 v) s0 noV) a' c' w h
  rw [m7] at cPG
  have cKv := fun w => keepValue_any v v w
  rw [eqV_refl] at cKv
  have cPR := fun a' c' w h => props_any (setL L s0 v) a' c' w h
  rw [m2 h8] at cPR
  have h8' : ((setL L s0 v).length : Int) ≤ 8 := by omega
  have cGL := fun w h => vget_any L a cap s1 w h hS (by omega)
  have cGR := fun a' c' w h => vget_any (setL L s0 v) a' c' s1 w h hSR (by omega)
  rw [m3 he] at cGR
  have cKo := fun w => keepValue_any (getL L s1).1 (getL L s1).1 w
  rw [eqV_refl] at cKo
  have he' := list_ne he
  generalize getL L s1 = O at *
  clear m1 m2 m3 m4 m5 m6 m7 m8 m9 hSR hSG h60 h8 hcap he
  generalize setL (setL L s0 v) s0 noV = G at *
  generalize setL L s0 v = R at *
  clear h0 h3 h4 h5 h6 
  clear hS
  obtain ⟨⟨ok, on, os⟩, ob⟩ := O
  simp only [noV, V.val] at cD cG2
  obtain ⟨hR, ⟨p0, p1, p2⟩, y1⟩ := keepsW_facts w s0 s1 v
  obtain ⟨W0, hW0⟩ : ∃ W0, W0 = keepsW w s0 s1 v := ⟨_, rfl⟩
  rw [← hW0] at hR p0 p1 p2 y1
  simp only [keepsW] at hW0
  have hsl := hsl.kept hR
  obtain ⟨ak, an, sa⟩ := v
  simp only [V.val] at *
  go_enter Try.func3, Try.ntmps3
  go_wp2_with fail
  go_region
  rw [← hW0]
  clear hW0
  go_wp2_with fail
  refine (cL _ hsl).mono ?_
  rintro e w1 ⟨rfl, hb1⟩
  have p0 := (hb1.cell (p := ⟨w.heap.size + 1, 0, none⟩) y1).trans p0
  have p1 := (hb1.cell (p := ⟨w.heap.size + 1, 1, none⟩) y1).trans p1
  have p2 := (hb1.cell (p := ⟨w.heap.size + 1, 2, none⟩) y1).trans p2
  have y1 : w.heap.size + 1 < w1.heap.size := by have := hb1.size; omega
  have hR := below2 hR hb1
  have hsl := hsl.kept hb1
  clear hb1
  clear cL
  go_wp2_with fail
  refine (lv _).mono ?_
  rintro e w2 ⟨rfl, hb2⟩
  have p0 := (hb2.cell (p := ⟨w.heap.size + 1, 0, none⟩) y1).trans p0
  have p1 := (hb2.cell (p := ⟨w.heap.size + 1, 1, none⟩) y1).trans p1
  have p2 := (hb2.cell (p := ⟨w.heap.size + 1, 2, none⟩) y1).trans p2
  have y1 : w.heap.size + 1 < w2.heap.size := by have := hb2.size; omega
  have hR := below2 hR hb2
  have hsl := hsl.kept hb2
  clear hb2
  clear lv
  go_wp2_with fail
  refine (cP _ hsl).mono ?_
  rintro e w3 ⟨rfl, hb3⟩
  have p0 := (hb3.cell (p := ⟨w.heap.size + 1, 0, none⟩) y1).trans p0
  have p1 := (hb3.cell (p := ⟨w.heap.size + 1, 1, none⟩) y1).trans p1
  have p2 := (hb3.cell (p := ⟨w.heap.size + 1, 2, none⟩) y1).trans p2
  have y1 : w.heap.size + 1 < w3.heap.size := by have := hb3.size; omega
  have hR := below2 hR hb3
  have hsl := hsl.kept hb3
  clear hb3
  clear cP
  go_wp2_with fail
  refine (cN _).mono ?_
  rintro e wN ⟨rfl, hN⟩
  subst hN
  clear cN
  go_wp2_with fail
  refine (gv _).mono ?_
  rintro e w5 ⟨rfl, hb5⟩
  have p0 := (hb5.cell (p := ⟨w.heap.size + 1, 0, none⟩) y1).trans p0
  have p1 := (hb5.cell (p := ⟨w.heap.size + 1, 1, none⟩) y1).trans p1
  have p2 := (hb5.cell (p := ⟨w.heap.size + 1, 2, none⟩) y1).trans p2
  have y1 : w.heap.size + 1 < w5.heap.size := by have := hb5.size; omega
  have hR := below2 hR hb5
  have hsl := hsl.kept hb5
  clear hb5
  clear gv
  go_wp2_with fail
  have hdr : Below w5.heap.size w5 w5.drew := (Below.refl _ w5).drew
  have hsl5 := hsl.kept hdr
  go_region_held3 (fun W => W.cell? ⟨w.heap.size + 1, 0, none⟩ = some (.int .i64 ak) ∧ W.cell? ⟨w.heap.size + 1, 1, none⟩ = some (.int .i64 an) ∧ W.cell? ⟨w.heap.size + 1, 2, none⟩ = some (.string sa))
    (first | exact ⟨(hB.cell (p := ⟨w.heap.size + 1, 0, none⟩) y1).trans p0, (hB.cell (p := ⟨w.heap.size + 1, 1, none⟩) y1).trans p1, (hB.cell (p := ⟨w.heap.size + 1, 2, none⟩) y1).trans p2⟩ | go_keep)
    ((first
      | (go_at_call 12; refine (cF _ hsl5).mono ?_; rintro e wA ⟨aF, cFc, rfl, slF, hbA⟩; have hB := drew_below hbA)
      | (go_at_call 11; refine (cS aF cFc _ slF).mono ?_; rintro e wK ⟨aK, cK, rfl, slK, hbA⟩; have hB := below2 hB hbA)))
  have p0 := (hB.cell (p := ⟨w.heap.size + 1, 0, none⟩) y1).trans p0
  have p1 := (hB.cell (p := ⟨w.heap.size + 1, 1, none⟩) y1).trans p1
  have p2 := (hB.cell (p := ⟨w.heap.size + 1, 2, none⟩) y1).trans p2
  have y1 : w.heap.size + 1 < wK.heap.size := by have := hB.size; omega
  have hR := below2 hR hB
  have hsl := hsl.kept hB
  clear cF cS hsl5 slF hdr
  go_wp2_with fail
  refine (cG1 aK cK _ slK).mono ?_
  rintro e w7 ⟨rfl, hb7⟩
  have p0 := (hb7.cell (p := ⟨w.heap.size + 1, 0, none⟩) y1).trans p0
  have p1 := (hb7.cell (p := ⟨w.heap.size + 1, 1, none⟩) y1).trans p1
  have p2 := (hb7.cell (p := ⟨w.heap.size + 1, 2, none⟩) y1).trans p2
  have y1 : w.heap.size + 1 < w7.heap.size := by have := hb7.size; omega
  have hR := below2 hR hb7
  have hsl := hsl.kept hb7
  have slK := slK.kept hb7
  clear cG1 hb7
  go_wp2_with fail
  refine (cKv _).mono ?_
  rintro e w8 ⟨rfl, hb8⟩
  have hb8 := below2 (below_alloc1 w7 _) hb8
  have p0 := (hb8.cell (p := ⟨w.heap.size + 1, 0, none⟩) y1).trans p0
  have p1 := (hb8.cell (p := ⟨w.heap.size + 1, 1, none⟩) y1).trans p1
  have p2 := (hb8.cell (p := ⟨w.heap.size + 1, 2, none⟩) y1).trans p2
  have y1 : w.heap.size + 1 < w8.heap.size := by have := hb8.size; omega
  have hR := below2 hR hb8
  have hsl := hsl.kept hb8
  have slK := slK.kept hb8
  clear cKv hb8
  go_wp2_with fail
  refine (cPR aK cK _ slK).mono ?_
  rintro e w9 ⟨rfl, hb9⟩
  have p0 := (hb9.cell (p := ⟨w.heap.size + 1, 0, none⟩) y1).trans p0
  have p1 := (hb9.cell (p := ⟨w.heap.size + 1, 1, none⟩) y1).trans p1
  have p2 := (hb9.cell (p := ⟨w.heap.size + 1, 2, none⟩) y1).trans p2
  have y1 : w.heap.size + 1 < w9.heap.size := by have := hb9.size; omega
  have hR := below2 hR hb9
  have hsl := hsl.kept hb9
  have slK := slK.kept hb9
  clear cPR hb9
  go_wp2_with fail
  refine (cGL _ hsl).mono ?_
  rintro e wa ⟨rfl, hba⟩
  have p0 := (hba.cell (p := ⟨w.heap.size + 1, 0, none⟩) y1).trans p0
  have p1 := (hba.cell (p := ⟨w.heap.size + 1, 1, none⟩) y1).trans p1
  have p2 := (hba.cell (p := ⟨w.heap.size + 1, 2, none⟩) y1).trans p2
  have y1 : w.heap.size + 1 < wa.heap.size := by have := hba.size; omega
  have hR := below2 hR hba
  have hsl := hsl.kept hba
  have slK := slK.kept hba
  have slK' := slK.kept (below_alloc1 wa (.cells #[.int .i64 ok, .int .i64 on, .string os] 25))
  clear cGL hba
  go_wp2_with fail
  refine (cGR aK cK _ slK').mono ?_
  rintro e wb ⟨rfl, hbb⟩
  obtain ⟨o0, o1, o2⟩ := (C3.new wa ⟨ok, on, os⟩ 25 rfl).kept hbb (by simp)
  simp only at o0 o1 o2
  have y2 : wa.heap.size < wb.heap.size := by have := hbb.size; simp at this; omega
  have hbb := below2 (below_alloc1 wa _) hbb
  have p0 := (hbb.cell (p := ⟨w.heap.size + 1, 0, none⟩) y1).trans p0
  have p1 := (hbb.cell (p := ⟨w.heap.size + 1, 1, none⟩) y1).trans p1
  have p2 := (hbb.cell (p := ⟨w.heap.size + 1, 2, none⟩) y1).trans p2
  have y1 : w.heap.size + 1 < wb.heap.size := by have := hbb.size; omega
  have hR := below2 hR hbb
  have hsl := hsl.kept hbb
  have slK := slK.kept hbb
  clear cGR hbb slK'
  go_wp2_with fail
  refine (cKo _).mono ?_
  rintro e wc ⟨rfl, hbc⟩
  have hbc := below2 (below_alloc1 wb _) hbc
  clear o0 o1 o2 y2
  have p0 := (hbc.cell (p := ⟨w.heap.size + 1, 0, none⟩) y1).trans p0
  have p1 := (hbc.cell (p := ⟨w.heap.size + 1, 1, none⟩) y1).trans p1
  have p2 := (hbc.cell (p := ⟨w.heap.size + 1, 2, none⟩) y1).trans p2
  have y1 : w.heap.size + 1 < wc.heap.size := by have := hbc.size; omega
  have hR := below2 hR hbc
  have hsl := hsl.kept hbc
  have slK := slK.kept hbc
  clear cKo hbc
  go_wp2_with fail
  refine (cD aK cK _ slK).mono ?_
  rintro e wd ⟨aG, cG, rfl, slG, hbd⟩
  have hR := below2 hR hbd
  clear hbd cD
  go_wp2_with fail
  refine (cG2 aG cG _ slG).mono ?_
  rintro e we ⟨rfl, hbe⟩
  have slf := (slG.kept hbe).kept (below_alloc1 we (.cells #[.int .i64 0, .int .i64 0, .string ⟨#[]⟩] 25))
  have hR := below2 hR hbe
  clear hbe cG2 p0 p1 p2 y1
  go_wp2_with fail
  refine (cPG aG cG _ slf).mono ?_
  rintro e wf ⟨rfl, hbf⟩
  have hR := below2 (below2 hR (below_alloc1 we _)) hbf
  go_wp2_with fail
  refine (cW _).mono ?_
  rintro e wg ⟨rfl, hbg⟩
  go_wp2_with fail
  go_ret
  exact ⟨rfl, below2 hR hbg⟩

end Go.Proofs.Ytndbhalkhejgjab

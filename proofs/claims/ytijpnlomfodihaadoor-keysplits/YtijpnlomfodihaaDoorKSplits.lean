/- KeySplits: the walk. -/
import Derived.Test.YtijpnlomfodihaaDoorKRefSplit2
namespace Go.Proofs.YtijpnlomfodihaaDoor
open Go.RowKit

theorem refSplit_any (s : ByteArray) (w : World) :
    Calls Tryd.prog 16 #[.string s] w fun e w' => SpGot w w' e (spL s.data.toList) (spE s.data.toList) := by
  by_cases h : s.size ≤ 4096
  · exact refSplit_small s w h
  · have hl : ¬ s.data.toList.length ≤ 4096 := by simpa using h
    unfold spL spE
    rw [if_neg hl, if_neg hl]
    clear hl
    go_enter Tryd.func16, Tryd.ntmps16
    go_wp2_with fail
    exact bodyPost_ret (v := .tuple #[.slice none 0 0, .int .i64 2]) (by simp [results, Tryd.results16, go_sem]) rfl (SpGot.no (Below.refl _ _))

theorem spL_le (S : List UInt8) : (spL S).length ≤ 4096 := by
  rcases sp_cases S with ⟨A, h1, _, _, h4, h5⟩ | ⟨h1, _⟩
  · rw [h1]
    have := kvs_count A
    rw [h4] at this
    omega
  · rw [h1]; simp

set_option maxHeartbeats 1600000 in
set_option maxRecDepth 100000 in
theorem keySplits_walk (s : ByteArray) (w : World) (hm : ML w) (_hs : s.size ≤ maxLen) :
    Calls Tryd.prog 4 #[.string s] w fun e w' => e = .returned (.bool true) ∧ Below w.heap.size w w' := by
  by_cases h : 20000 < s.size
  · go_enter Tryd.func4, Tryd.ntmps4
    go_wp2_with fail
    refine (kwakes_any _ hm).mono ?_
    rintro e w1 ⟨rfl, hb1⟩
    go_wp2_with fail
    go_ret
    exact ⟨rfl, hb1⟩
  · have c1 := fun w => split_any s w (by omega)
    have c2 := fun w => refSplit_any s w
    have cA := fun w => after_any s w (by omega)
    have cR := fun w => refAfter_any s w (by omega)
    have hl := spL_le s.data.toList
    generalize spL s.data.toList = L at *
    generalize spE s.data.toList = E at *
    generalize ba (aft s.data.toList) = T at *
    have cV := fun a a' c c' w h h' => keepValues_any L a a' c c' w h h' (by omega)
    have q1 : (T.toList == T.toList) = true := by simp
    have q2 : (E == E) = true := by simp
    go_enter Tryd.func4, Tryd.ntmps4
    go_wp2_with fail
    refine (c1 _).mono ?_
    rintro e w1 ⟨a1, k1, rfl, s1, _, hb1⟩
    go_wp2_with fail
    refine (c2 _).mono ?_
    rintro e w2 ⟨a2, k2, rfl, s2, _, hb2⟩
    have j2 := below2 hb1 hb2
    go_wp2_with fail
    refine (cV a1 a2 k1 k2 _ (s1.kept hb2) s2).mono ?_
    rintro e w3 ⟨rfl, hb3⟩
    have j3 := below2 j2 hb3
    go_wp2_with fail
    refine (cA _).mono ?_
    rintro e w4 ⟨rfl, hb4⟩
    have j4 := below2 j3 hb4
    go_wp2_with fail
    refine (cR _).mono ?_
    rintro e w5 ⟨rfl, hb5⟩
    have j5 := below2 j4 hb5
    go_wp2_with fail
    refine (kwakes_any _ (hm.kept j5)).mono ?_
    rintro e w6 ⟨rfl, hb6⟩
    go_wp2_with fail
    go_ret
    exact ⟨rfl, below2 j5 hb6⟩

end Go.Proofs.YtijpnlomfodihaaDoor

/- PageOthers: the walk. -/
import Derived.Test.YtfgblmbocchddaaPWakes
namespace Go.Proofs.Ytfgblmbocchddaa
open Go.RowKit

set_option maxHeartbeats 3200000 in
set_option maxRecDepth 100000 in
theorem pageOthers_any (p row : ByteArray) (k : Int) (w : World) (hpm : p.size ≤ maxLen) (hrm : row.size ≤ maxLen) (_hk : -9223372036854775808 ≤ k ∧ k ≤ 9223372036854775807) :
    Calls Try.prog 7 #[.string p, .string row, .int .i64 k] w fun e w' => e = .returned (.bool true) ∧ Below w.heap.size w w' := by
  unfold maxLen at hpm hrm
  by_cases h1 : 5000 < p.size
  · have h12 : (5000 : Int) < (p.size : Int) := by omega
    go_enter Try.func7, Try.ntmps7
    go_wp2_with fail
    refine (wakes_any _).mono ?_
    rintro e w1 ⟨rfl, b1⟩
    go_wp2_with fail
    go_ret
    exact ⟨rfl, b1⟩
  · have h12 : ¬ (5000 : Int) < (p.size : Int) := by omega
    by_cases h2 : 3000 < row.size
    · have h22 : (3000 : Int) < (row.size : Int) := by omega
      go_enter Try.func7, Try.ntmps7
      go_wp2_with fail
      refine (wakes_any _).mono ?_
      rintro e w1 ⟨rfl, b1⟩
      go_wp2_with fail
      go_ret
      exact ⟨rfl, b1⟩
    · have h22 : ¬ (3000 : Int) < (row.size : Int) := by omega
      cases hr : rd p with
      | some l =>
        have hs := rd_size hr
        have hs2 : ((p.size : Int) == 512) = true := by simp; omega
        have cG := fun w => good_any p w (by omega) true (by rw [hr]; rfl)
        clear hs hr
        go_enter Try.func7, Try.ntmps7
        go_wp2_with fail
        refine (cG _).mono ?_
        rintro e w1 ⟨rfl, b1⟩
        go_wp2_with fail
        refine (wakes_any _).mono ?_
        rintro e w2 ⟨rfl, b2⟩
        go_wp2_with fail
        go_ret
        exact ⟨rfl, below2 b1 b2⟩
      | none =>
        have hp : p.size ≤ 1000000 := by omega
        have cG := fun w => good_any p w hp false (by rw [hr]; rfl)
        have cI := fun w => ins_form p row w hp hr
        have cP := fun w => put_err p row k 11 w (Or.inl rfl) (find_form p k w hp hr)
        have cD := fun w => del_err p k 11 w (Or.inl rfl) (find_form p k w hp hr)
        have cT := fun w => get_err p k 11 w (Or.inl rfl) (find_form p k w hp hr)
        have cS := fun w => slots_any p [] w ((read_no p w hp hr).mono (by rintro e w' ⟨v, rfl, h⟩; exact ⟨v, _, rfl, h⟩)) (by simp) [] rfl
        have cF := fun w => free_form p w hp hr
        clear hr
        go_enter Try.func7, Try.ntmps7
        go_wp2_with fail
        refine (cG _).mono ?_
        rintro e w1 ⟨rfl, b1⟩
        go_wp2_with fail
        refine (cI _).mono ?_
        rintro e w2 ⟨rfl, b2⟩
        have b02 := below2 b1 b2
        go_wp2_with fail
        refine (cP _).mono ?_
        rintro e w3 ⟨rfl, b3⟩
        have b03 := below2 b02 b3
        go_wp2_with fail
        refine (cD _).mono ?_
        rintro e w4 ⟨rfl, b4⟩
        have b04 := below2 b03 b4
        go_wp2_with fail
        refine (cT _).mono ?_
        rintro e w5 ⟨rfl, b5⟩
        have b05 := below2 b04 b5
        go_wp2_with fail
        refine (cS _).mono ?_
        rintro e w6 ⟨v, rfl, r6, b6⟩
        obtain ⟨a6, c6, rfl, _⟩ := r6.len
        have b06 := below2 b05 b6
        go_wp2_with fail
        refine (cF _).mono ?_
        rintro e w7 ⟨rfl, b7⟩
        have b07 := below2 b06 b7
        go_wp2_with fail
        refine (wakes_any _).mono ?_
        rintro e w8 ⟨rfl, b8⟩
        go_wp2_with fail
        go_ret
        exact ⟨rfl, below2 b07 b8⟩

end Go.Proofs.Ytfgblmbocchddaa

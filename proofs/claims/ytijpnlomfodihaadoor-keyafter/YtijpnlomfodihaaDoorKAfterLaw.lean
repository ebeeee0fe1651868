/- KeyAfter: the walk. -/
import Derived.Test.YtijpnlomfodihaaDoorKLaw
import Derived.Laws.Cover1
namespace Go.Proofs.YtijpnlomfodihaaDoor
open Go.RowKit

/-- Does a text stand from s on, below a? -/
def inB (s a x : ByteArray) : Bool := !Op.bytesLess x.toList s.toList && ((a.toList == []) || Op.bytesLess x.toList a.toList)

theorem inB_eq (s x : ByteArray) : inB s (ba (aft s.data.toList)) x = s.data.toList.isPrefixOf x.data.toList := by
  unfold inB
  rw [← aft_in, ba_list, ByteArray.toList_eq, ByteArray.toList_eq]
  congr 2
  rw [Bool.eq_iff_iff]
  simp

set_option maxHeartbeats 800000 in
theorem in_any (s a x : ByteArray) (b1 b2 : Nat) (w : World) (h1 : w.cell? ⟨b1, 0, none⟩ = some (.string s)) (h2 : w.cell? ⟨b2, 0, none⟩ = some (.string a)) :
    Calls Tryd.prog 20 #[.string x, .pointer (some ⟨b1, 0, none⟩), .pointer (some ⟨b2, 0, none⟩)] w fun e w' => e = .returned (.bool (inB s a x)) ∧ w' = w := by
  unfold inB
  cases q1 : Op.bytesLess x.toList s.toList with
  | true =>
    go_enter Tryd.func20, Tryd.ntmps20
    go_wp2_with fail
    go_ret
    exact ⟨rfl, rfl⟩
  | false =>
    cases q2 : (a.toList == []) with
    | true =>
      go_enter Tryd.func20, Tryd.ntmps20
      go_wp2_with fail
      go_ret
      exact ⟨rfl, rfl⟩
    | false =>
      go_enter Tryd.func20, Tryd.ntmps20
      go_wp2_with fail
      go_ret
      exact ⟨rfl, rfl⟩

set_option maxHeartbeats 1600000 in
set_option maxRecDepth 100000 in
theorem keyAfter_walk (s t : ByteArray) (w : World) (hm : ML w) (_hs : s.size ≤ maxLen) (_ht : t.size ≤ maxLen) :
    Calls Tryd.prog 7 #[.string s, .string t] w fun e w' => e = .returned (.bool true) ∧ Below w.heap.size w w' := by
  by_cases h1 : 1000 < s.size
  · go_enter Tryd.func7, Tryd.ntmps7
    go_wp2_with fail
    refine (kwakes_any _ (hm.kept (below_alloc1 _ _))).mono ?_
    rintro e w1 ⟨rfl, hb1⟩
    go_wp2_with fail
    go_ret
    exact ⟨rfl, below2 (below_alloc1 _ _) hb1⟩
  · by_cases h2 : 1000 < t.size
    · go_enter Tryd.func7, Tryd.ntmps7
      go_wp2_with fail
      refine (kwakes_any _ (hm.kept (below_alloc1 _ _))).mono ?_
      rintro e w1 ⟨rfl, hb1⟩
      go_wp2_with fail
      go_ret
      exact ⟨rfl, below2 (below_alloc1 _ _) hb1⟩
    · have cA := fun w => after_any s w (by omega)
      have hin := fun x => inB_eq s x
      generalize ba (aft s.data.toList) = A at *
      have i1 := hin s
      have i2 := hin (s ++ t)
      have i3 := hin (s ++ ⟨#[255, 255]⟩)
      have i4 := hin t
      have e1 : s.data.toList.isPrefixOf s.data.toList = true := by rw [List.isPrefixOf_iff_prefix]; exact List.prefix_rfl
      have e2 : s.data.toList.isPrefixOf (s ++ t).data.toList = true := by simp
      have e3 : s.data.toList.isPrefixOf (s ++ ⟨#[255, 255]⟩ : ByteArray).data.toList = true := by simp
      rw [e1] at i1
      rw [e2] at i2
      rw [e3] at i3
      clear hin e1 e2 e3
      have cB := fun w => begins_any t s w
      rw [← i4] at cB
      go_enter Tryd.func7, Tryd.ntmps7
      go_wp2_with fail
      refine (cA _).mono ?_
      rintro e w1 ⟨rfl, hb1⟩
      have k0 := hb1.cell (p := ⟨w.heap.size, 0, none⟩) (by simp)
      simp at k0
      have k2 : (w1.alloc (.cells #[.string A] 9)).cell? ⟨w.heap.size, 0, none⟩ = some (.string s) := by
        rw [World.cell?_alloc_some w1 _ _ (by rw [k0]; rfl)]; exact k0
      have k3 : (w1.alloc (.cells #[.string A] 9)).cell? ⟨w1.heap.size, 0, none⟩ = some (.string A) := by simp
      have c1 := in_any s A s _ _ _ k2 k3
      have c2 := in_any s A (s ++ t) _ _ _ k2 k3
      have c3 := in_any s A (s ++ ⟨#[255, 255]⟩) _ _ _ k2 k3
      rw [i1] at c1
      rw [i2] at c2
      rw [i3] at c3
      go_wp2_with fail
      refine c1.mono ?_
      rintro e w2 ⟨rfl, h2⟩
      rw [h2]
      clear h2
      go_wp2_with fail
      refine c2.mono ?_
      rintro e w2 ⟨rfl, h2⟩
      rw [h2]
      clear h2
      go_wp2_with fail
      refine c3.mono ?_
      rintro e w2 ⟨rfl, h2⟩
      rw [h2]
      clear h2 c1 c2 c3
      obtain ⟨W, hW⟩ : ∃ W, W = w1.alloc (.cells #[.string A] 9) := ⟨_, rfl⟩
      have hmW : ML W := by rw [hW]; exact ((hm.kept (below_alloc1 _ _)).kept hb1).kept (below_alloc1 _ _)
      have hbW : Below w.heap.size w W := by rw [hW]; exact below3 (below_alloc1 _ _) hb1 (below_alloc1 _ _)
      have hz0 : w.heap.size < W.heap.size := World.block_lt_of_cell? W _ (by rw [hW]; exact k2)
      have hz1 : w1.heap.size < W.heap.size := World.block_lt_of_cell? W _ (by rw [hW]; exact k3)
      rw [← hW] at k2 k3
      rw [← hW]
      clear hW k0 hb1 i1 i2 i3 i4
      have cI := fun W (h : W.cell? ⟨w.heap.size, 0, none⟩ = some (.string s)) (h' : W.cell? ⟨w1.heap.size, 0, none⟩ = some (.string A)) => in_any s A t _ _ W h h'
      have cW := fun W h => kwakes_any W h
      generalize inB s A t = g at *
      have hgg : (g == g) = true := by simp
      go_wp2_with fail
      go_region_held3 (fun W => W.cell? ⟨w.heap.size, 0, none⟩ = some (.string s) ∧ W.cell? ⟨w1.heap.size, 0, none⟩ = some (.string A) ∧ ML W)
        (first | exact ⟨(hB.cell (p := ⟨w.heap.size, 0, none⟩) hz0).trans k2, (hB.cell (p := ⟨w1.heap.size, 0, none⟩) hz1).trans k3, hmW.kept hB⟩ | exact ⟨k2, k3, hmW⟩ | go_keep)
        (first
          | (go_at_call 10; refine (cW _ (by assumption)).mono ?_; rintro e wA ⟨rfl, hbA⟩; have hB := kdrew hbA)
          | (go_at_call 21; refine (cB _).mono ?_; rintro e wA ⟨rfl, hbA⟩)
          | (go_at_call 20; refine (cI _ (by assumption) (by assumption)).mono ?_; rintro e wA ⟨rfl, hbA⟩))
      all_goals go_wp2_with fail
      all_goals go_ret
      all_goals exact ⟨rfl, below2 hbW hB⟩

end Go.Proofs.YtijpnlomfodihaaDoor

/- Layer 10: what wakes puts. -/
import Derived.Test.YtkfoddblgdmabaaTrNil
namespace Go.Proofs.Ytkfoddblgdmabaa.tr
open Go.RowKit

def kA : ByteArray := ⟨#[97]⟩
def kB : ByteArray := ⟨#[98]⟩
def kC : ByteArray := ⟨#[99]⟩
theorem ltAB : ltS kA kB = true := by unfold ltS kA kB; rw [ByteArray.toList_eq, ByteArray.toList_eq]; rfl
theorem ltBA : ltS kB kA = false := by unfold ltS kA kB; rw [ByteArray.toList_eq, ByteArray.toList_eq]; rfl
theorem ltAC : ltS kA kC = true := by unfold ltS kA kC; rw [ByteArray.toList_eq, ByteArray.toList_eq]; rfl
theorem ltBC : ltS kB kC = true := by unfold ltS kB kC; rw [ByteArray.toList_eq, ByteArray.toList_eq]; rfl
theorem wput1 : putT kB 2 [] = (true, 0, [⟨kB, 2⟩]) := by
  have h : hasL kB [] = false := rfl
  unfold putT
  rw [if_neg (by decide), h]
  rfl
theorem wput2 : putT kA 1 [⟨kB, 2⟩] = (true, 0, [⟨kA, 1⟩, ⟨kB, 2⟩]) := by
  have hA : Lo [] kA := Lo.nil _
  have hB : Hi [⟨kB, 2⟩] kA := Hi.cons.2 ⟨ltAB, Hi.nil _⟩
  have h : hasL kA ([] ++ [⟨kB, 2⟩]) = false := hasL_new hA hB
  have hp := putL_new (n := 1) hA hB
  rw [List.nil_append] at h hp
  unfold putT
  rw [if_neg (by decide), h, hp]
  rfl
theorem wput3 : putT kC 3 [⟨kA, 1⟩, ⟨kB, 2⟩] = (true, 0, [⟨kA, 1⟩, ⟨kB, 2⟩, ⟨kC, 3⟩]) := by
  have hA : Lo [⟨kA, 1⟩, ⟨kB, 2⟩] kC := Lo.cons.2 ⟨ltAC, Lo.cons.2 ⟨ltBC, Lo.nil _⟩⟩
  have hB : Hi [] kC := Hi.nil _
  have h := hasL_new hA hB
  have hp := putL_new (n := 3) hA hB
  rw [List.append_nil] at h hp
  unfold putT
  rw [if_neg (by decide), h, hp]
  rfl

theorem lt_empty (a : ByteArray) : ltS a ⟨#[]⟩ = false := by
  unfold ltS
  rw [ByteArray.toList_eq, ByteArray.toList_eq]
  cases a.data.toList <;> rfl
theorem rg_empty (L : List Ent) : rg ⟨#[]⟩ L = L := rg_ge (fun x _ => lt_empty x.key)
/-- All that there are, where enough are wanted. -/
theorem tk_all (most : Int) : ∀ (L acc : List Ent), ((acc.length + L.length : Nat) : Int) ≤ most → tk ⟨#[]⟩ most acc L = acc ++ L
  | [], acc, _ => by simp [tk]
  | x :: L, acc, h => by
    rw [tk_not (fun q => ?_), tk_all most L (acc ++ [x]) (by simp only [List.length_append, List.length_cons, List.length_nil] at h ⊢; omega)]
    · simp
    · rcases q with q | ⟨q, _⟩
      · simp only [List.length_cons] at h; omega
      · exact q (by rw [ByteArray.toList_eq])

set_option maxHeartbeats 3200000 in
set_option maxRecDepth 100000 in
theorem wakes_any (w : World) : Calls Try.prog 10 #[] w fun e w' => e = .returned (.bool true) ∧ Below w.heap.size w w' := by
  go_enter Try.func10, Try.ntmps10
  go_wp2_with fail
  go_at_call 9
  refine (new_any w 3 (by decide) (by decide)).mono ?_
  rintro e w1 ⟨tb, M1, rfl, t1, b1⟩
  go_simp
  go_wp2_with fail
  go_at_call 12
  refine (put_any t1 kB 2 (by decide)).mono ?_
  rw [wput1]
  rintro e w2 ⟨rfl, M2, t2, to2⟩
  go_simp
  go_wp2_with fail
  go_at_call 12
  refine (put_any t2 kA 1 (by decide)).mono ?_
  rw [wput2]
  rintro e w3 ⟨rfl, M3, t3, to3⟩
  go_simp
  go_wp2_with fail
  go_at_call 12
  refine (put_any t3 kC 3 (by decide)).mono ?_
  rw [wput3]
  rintro e w4 ⟨rfl, M4, t4, to4⟩
  go_simp
  go_wp2_with fail
  go_at_call 21
  refine (range_any t4 ⟨#[]⟩ ⟨#[]⟩ 9 (by intro e he; simp [kA, kB, kC] at he; rcases he with rfl | rfl | rfl <;> decide)).mono ?_
  rw [rg_empty, tk_all 9 _ [] (by decide)]
  rintro e w5 ⟨v, rfl, row, b5⟩
  obtain ⟨rb, rc, e1, _, _, hrb, hc⟩ := row.cell gE_len (i := 0) (x := ⟨kA, 1⟩) rfl
  obtain ⟨rb2, rc2, e2, _, _, _, hc2⟩ := row.cell gE_len (i := 2) (x := ⟨kC, 3⟩) rfl
  subst e1
  injection e2 with q1 _ _
  injection q1 with q1
  injection q1 with q1 _ _
  subst q1
  have c0 := (hc 0 _ rfl).1
  have c1 := (hc2 1 _ rfl).1
  have t5 := t4.below b5
  have hln := len_any t5
  have hdp := depth_any t5
  have hB : Below w.heap.size w w5 := ((((b1.trans ((to2.below t1).mono (Nat.le_refl _))).trans (to3.below t2)).trans (to4.below t3)).trans (b5.mono (by have := (to4.below t3).size; have := (to3.below t2).size; have := (to2.below t1).size; have := b1.size; omega)))
  clear row hc hc2 t1 t2 t3 t4 to2 to3 to4 b1 b5 t5
  go_simp
  go_wp2_with (first | (go_at_call 25; refine hln.mono ?_; clear hln; rintro e w6 ⟨rfl, h6⟩; rw [h6]; clear h6 w6) | (go_at_call 18; refine hdp.mono ?_; clear hdp; rintro e w7 ⟨⟨d, rfl, hd⟩, h7⟩; rw [h7]; clear h7 w7; obtain ⟨H, rfl, _, _⟩ := hd.pos (by decide); have hd1 : (1 : Int) ≤ ((H + 1 : Nat) : Int) := by omega))
  · go_ret
    refine ⟨?_, hB⟩
    show Ending.returned (Value.bool (decide ((1 : Int) ≤ (H : Int) + 1))) = _
    rw [decide_eq_true (by omega)]
  · rename_i h9 _ _ _
    exact absurd (show kA.toList = [97] by rw [ByteArray.toList_eq]; rfl) h9

end Go.Proofs.Ytkfoddblgdmabaa.tr

/- same: does a page tell what the document's does? -/
import Derived.Test.YtfgblmbocchddaaPRefB
namespace Go.Proofs.Ytfgblmbocchddaa
open Go.RowKit

theorem slots_ok {l : List Sl} (hl : l.length ≤ 1000) (x : Int) (h : x ∈ slotsF l 0) : i64ok x := by
  obtain ⟨n, hn⟩ := List.getElem?_of_mem h
  have hn : (slotsF l 0)[n]? = some x := hn
  have key : ∀ (l : List Sl) (i n : Nat) (k : Int), (slotsF l i)[n]? = some k → (i : Int) ≤ k ∧ k < (i : Int) + l.length := by
    intro l
    induction l with
    | nil => intro i n k h; simp [slotsF] at h
    | cons s l ih =>
      intro i n k h
      cases s with
      | none => have := ih (i + 1) n k h; simp; omega
      | some r =>
        cases n with
        | zero => simp [slotsF] at h; simp; omega
        | succ n => simp [slotsF] at h; have := ih (i + 1) n k h; simp; omega
  have := key l 0 n x hn
  exact ⟨by omega, by omega⟩

theorem two_src {w : World} (a : Nat) (x y : Int) (h : w.cell? ⟨a, 0, none⟩ = some (.int .i64 x)) (h' : w.cell? ⟨a, 1, none⟩ = some (.int .i64 y)) : ∀ j u, (intC [x, y])[j]? = some u → w.cell? ((⟨a, 0, none⟩ : Addr).add j) = some u := by
  intro j u hu
  rw [Addr.add_lit]
  match j, hu with
  | 0, hu => simp [intC] at hu; subst hu; exact h
  | 1, hu => simp [intC] at hu; subst hu; exact h'

set_option maxHeartbeats 3200000 in
set_option maxRecDepth 100000 in
theorem same_any {B : Nat} {w : World} {qb : Nat} {v : Value} {l : List Sl} (h : Pgr B w qb v l) (hF : Fine l) (k : Int) (hk : i64ok k) :
    Calls Try.prog 13 #[.string (pg l), .pointer (some ⟨qb, 0, none⟩), .int .i64 k] w fun e w' => e = .returned (.bool true) ∧ Below w.heap.size w w' := by
  have hl : l.length ≤ 127 := few hF.room
  obtain ⟨L, hL⟩ : ∃ L, slotsF l 0 = L := ⟨_, rfl⟩
  have HL : Hid (slotsF l 0 = L) := hL
  have hLl : L.length ≤ 127 := by have := slotsF_len l 0; rw [hL] at this; omega
  obtain ⟨N, hN⟩ : ∃ N, freeN l = N := ⟨_, rfl⟩
  have HN : Hid (freeN l = N) := hN
  have HM : Hid (∀ x ∈ L ++ [k, -1], i64ok x) := by
    intro x hx
    rcases List.mem_append.1 hx with q | q
    · rw [← hL] at q; exact slots_ok (by omega) x q
    · simp at q
      rcases q with rfl | rfl
      · exact hk
      · exact ⟨by decide, by decide⟩
  have cGd := fun w => good_pg hF w
  have cS := fun w => slots_pg hF L HL w
  have cFr := fun w => free_pg hF N HN w
  have cGt := fun x (hx : i64ok x) w => get_pg hF x hx w
  clear hL hN hk
  generalize pg l = P at *
  go_enter Try.func13, Try.ntmps13
  go_wp2_with fail
  refine (cGd _).mono ?_
  rintro e w1 ⟨rfl, b1⟩
  go_wp2_with fail
  refine (cS _).mono ?_
  rintro e w2 ⟨v2, rfl, r2, b2⟩
  have b02 := below2 b1 b2
  go_wp2_with fail
  refine (rslots_any (h.below b02) (by omega) L HL).mono ?_
  rintro e w3 ⟨v3, rfl, r3, b3⟩
  have b03 := below2 b02 b3
  go_wp2_with fail
  refine (ints_any L (r2.below' b3) r3 (by omega)).mono ?_
  rintro e w4 ⟨rfl, b4⟩
  have b04 := below2 b03 b4
  go_wp2_with fail
  refine (cFr _).mono ?_
  rintro e w5 ⟨rfl, b5⟩
  have b05 := below2 b04 b5
  go_wp2_with fail
  refine (rfree_any (h.below b05) hF N HN).mono ?_
  rintro e w6 ⟨rfl, b6⟩
  have b06 := below2 b05 b6
  clear r2 r3 b1 b2 b3 b4 b5 b6 b02 b03 b04 b05
  go_wp2_with fail
  refine (rslots_any (h.below b06) (by omega) L HL).mono ?_
  rintro e w7 ⟨v7, rfl, r7, b7⟩
  have b07 := below2 b06 b7
  have ba := below_alloc1 w7 (.cells #[.int .i64 k, .int .i64 (-1)] 3)
  go_wp2_with (at_builtin; refine wpList_append_int _ rfl (.tmp 32) (.tmp 34) rfl w6.heap.size _ L [k, -1] rfl (r7.below' ba) ⟨w7.heap.size, 0, none⟩ 2 (by simp; rfl) (two_src _ _ _ (by simp) (by simp)) (by simp; omega) (by have := b7.size; simp; omega) ?_; intro v8 w8 r8 f8 n8)
  have b08 : Below w.heap.size w w8 := f8.below (below2 b07 ba) (by have := b07.size; simp; omega) (fun k e => by have := (r7.blk e).1; have := b06.size; omega)
  have h8 := h.below b08
  obtain ⟨M, hM⟩ : ∃ M, M = L ++ [k, -1] := ⟨_, rfl⟩
  rw [← hM] at r8 HM
  have hMl : M.length ≤ 129 := by rw [hM]; simp; omega
  clear hM r7 f8 n8 b07 b06 b7 ba cGd cS cFr
  obtain ⟨a8, c8, hv8, hc8, _⟩ := r8.len
  subst hv8
  go_loopw [8] (fun si wr => ∃ i : Nat, i ≤ M.length ∧ si = .int .i64 (i : Int) ∧ Below w8.heap.size w8 wr) (fun si _ => M.length - (intOf si).toNat)
  case atStart => exact ⟨0, Nat.zero_le _, rfl, Below.refl _ _⟩
  case round =>
    obtain ⟨i, hi, rfl, hb⟩ := hrel
    by_cases hlt : i < M.length
    · have hlt2 : (i : Int) < (M.length : Int) := by omega
      have hx : M[i]? = some M[i] := by simp [hlt]
      generalize M[i] = x at hx
      have hxo := HM.out x (List.mem_of_getElem? hx)
      obtain ⟨b, c', e, _, _, hbl, q⟩ := r8.cell hx
      cases e
      have q1 : wr.cell? ⟨b, i, none⟩ = some (.int .i64 x) := (hb.cell (p := ⟨b, i, none⟩) hbl).trans q
      have cR := fun w' (hb' : Below w8.heap.size w8 w') => rget_any (h8.below hb') (by omega) x hxo
      have cG := fun w => cGt x hxo w
      generalize rowOf (rowAt l x) = S at *
      generalize delE l x = E at *
      clear q hx
      go_wp2_with fail
      refine (cG _).mono ?_
      rintro e w9 ⟨rfl, b9⟩
      have hb9 := below2 hb b9
      have q2 : w9.cell? ⟨b, i, none⟩ = some (.int .i64 x) := (b9.cell (p := ⟨b, i, none⟩) (show b < wr.heap.size by have := hb.size; omega)).trans q1
      go_wp2_with fail
      refine (cR _ hb9).mono ?_
      rintro e w10 ⟨rfl, e10⟩
      rw [e10]
      clear e10 cR cG
      go_wp2_with fail
      go_roundw
      case rel => exact ⟨i + 1, by omega, by go_num, hb9⟩
      case measure => simp [intOf]; omega
    · obtain rfl : i = M.length := by omega
      go_wp2_with fail
      go_ret
      exact ⟨rfl, below2 b08 hb⟩

end Go.Proofs.Ytfgblmbocchddaa

/- Rows of numbers; Slots, Free. -/
import Derived.Test.YtjmdenlocmleiaaPIns
import Derived.Test.YtjmdenlocmleiaaPPut
namespace Go.Proofs.Ytjmdenlocmleiaa
open Go.RowKit


theorem slots_step (l : List Sl) (k : Nat) (s : Sl) (hx : l[k]? = some s) : slotsF (l.take (k + 1)) 0 = slotsF (l.take k) 0 ++ (match s with | none => [] | some _ => [(k : Int)]) := by
  have hlt : k < l.length := (List.getElem?_eq_some_iff.1 hx).1
  rw [take_snoc l k s hx, slotsF_append, List.length_take, Nat.min_eq_left (by omega), Nat.zero_add]
  cases s <;> rfl

set_option maxHeartbeats 1600000 in
set_option maxRecDepth 100000 in
theorem slots_any (p : ByteArray) (l : List Sl) (w : World) (c : Calls Try.prog 46 #[.string p] w fun e w' => ∃ v b, e = .returned (.tuple #[v, .bool b]) ∧ Rw 94 cf w' w.heap.size v l ∧ Below w.heap.size w w') (hl : l.length ≤ 1000) (L : List Int) (HL : Hid (slotsF l 0 = L)) :
    Calls Try.prog 24 #[.string p] w fun e w' => ∃ v, e = .returned v ∧ IRow w' w.heap.size v L ∧ Below w.heap.size w w' := by
  go_enter Try.func24, Try.ntmps24
  go_wp2_with fail
  refine c.mono ?_
  rintro e w1 ⟨v, ok, rfl, r1, b1⟩
  clear c
  obtain ⟨sa, sc, rfl, hsc, _⟩ := r1.len
  go_wp2_with fail
  go_loopw [5, 15] (fun st si wr => ∃ k : Nat, k ≤ l.length ∧ si = .int .i64 (k : Int) ∧ IRow wr w1.heap.size st (slotsF (l.take k) 0) ∧ Below w1.heap.size w1 wr) (fun _ si _ => l.length - (intOf si).toNat)
  case atStart => exact ⟨0, Nat.zero_le _, rfl, irow_nil _ _, Below.refl _ _⟩
  case round =>
    obtain ⟨k, hk, rfl, hrow, hb⟩ := hrel
    obtain ⟨ta, tc, rfl, htc, _⟩ := hrow.len
    by_cases hlt : k < l.length
    · have hlt2 : (k : Int) < (l.length : Int) := by omega
      have hx : l[k]? = some l[k] := by simp [hlt]
      generalize l[k] = s at hx
      have hsl := slotsF_len (l.take k) 0
      rw [List.length_take] at hsl
      have hst := slots_step l k s hx
      obtain ⟨b, c', e, _, _, _, hbl, c0, c1, _⟩ := r1.cell hx
      cases e
      generalize slotsF (l.take k) 0 = A at *
      cases s with
      | none =>
        have d0 : wr.cell? ⟨b, k * 2, none⟩ = some (.bool false) := (hb.cell (p := ⟨b, k * 2, none⟩) hbl).trans c0
        have d1 : wr.cell? ⟨b, k * 2 + 1, none⟩ = some (.string ⟨#[]⟩) := (hb.cell (p := ⟨b, k * 2 + 1, none⟩) hbl).trans c1
        have HS : Hid (slotsF (l.take (k + 1)) 0 = A) := by show _ = _; rw [hst]; simp
        clear c0 c1 hst
        go_wp2_with fail
        go_roundw
        case rel => exact ⟨k + 1, by omega, by go_num, by rw [HS.out]; exact hrow.below' (below_alloc1 _ _), below2 hb (below_alloc1 _ _)⟩
        case measure => simp [intOf]; omega
      | some r =>
        have d0 : wr.cell? ⟨b, k * 2, none⟩ = some (.bool true) := (hb.cell (p := ⟨b, k * 2, none⟩) hbl).trans c0
        have d1 : wr.cell? ⟨b, k * 2 + 1, none⟩ = some (.string r) := (hb.cell (p := ⟨b, k * 2 + 1, none⟩) hbl).trans c1
        have HS : Hid (slotsF (l.take (k + 1)) 0 = A ++ [(k : Int)]) := by show _ = _; rw [hst]
        have hb1 := below2 hb (below_alloc1 wr (.cells #[.bool true, .string r] 94))
        have hb2 := below2 hb1 (below_alloc1 _ (.cells #[.int .i64 (k : Int)] 3))
        have hr2 := (hrow.below' (below_alloc1 wr (.cells #[.bool true, .string r] 94))).below' (below_alloc1 _ (.cells #[.int .i64 (k : Int)] 3))
        clear c0 c1 hst
        go_wp2_with (at_builtin; refine wpList_append_int _ rfl _ _ rfl w1.heap.size _ A [(k : Int)] rfl hr2 ⟨wr.heap.size + 1, 0, none⟩ 1 (by simp; rfl) (one_src _ _ (by simp)) (by simp; omega) hb2.size ?_; intro v' w' hrow' hfr hnew)
        go_roundw
        case rel => exact ⟨k + 1, by omega, by go_num, by rw [HS.out]; exact hrow', hfr.below hb2 hb2.size (fun k e => (hrow.blk e).1)⟩
        case measure => simp [intOf]; omega
    · obtain rfl : k = l.length := by omega
      rw [List.take_length] at *
      have HL2 : Hid (slotsF l 0 = L) := HL
      generalize slotsF l 0 = A at *
      go_wp2_with fail
      go_ret
      exact ⟨_, rfl, by rw [← HL2.out]; exact hrow.mono b1.size, below2 b1 hb⟩

end Go.Proofs.Ytjmdenlocmleiaa

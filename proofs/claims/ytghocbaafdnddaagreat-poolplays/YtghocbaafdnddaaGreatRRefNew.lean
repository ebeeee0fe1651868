/- The document's device: New. -/
import Derived.Test.YtghocbaafdnddaaGreatRRefW
namespace Go.Proofs.YtghocbaafdnddaaGreat
open Go.RowKit

def R0 (n : Nat) : RS := { n := n, seen := fun _ => blk 0, safe := fun _ => blk 0, held := [], left := 0, refuse := 0, armed := false, ops := 0 }

set_option maxHeartbeats 800000 in
set_option maxRecDepth 100000 in
theorem rnew_bad (x : Int) (w : World) (hx : x < 1 ∨ 8192 < x) :
    Calls Tryz.prog 6 #[.int .i64 x] w fun e w' => e = .returned (.tuple #[.pointer none, .int .i64 1]) ∧ w' = w := by
  by_cases h1 : x < 1
  · have d1 : decide (x < 1) = true := by simpa using h1
    go_enter Tryz.func6, Tryz.ntmps6
    go_wp2_with fail
    exact bodyPost_ret (v := .tuple #[.pointer none, .int .i64 1]) (by simp [results, Tryz.results6, go_sem]) rfl ⟨rfl, rfl⟩
  · have d1 : decide (x < 1) = false := by simpa using h1
    have d2 : decide (8192 < x) = true := by simp; omega
    go_enter Tryz.func6, Tryz.ntmps6
    go_wp2_with fail
    exact bodyPost_ret (v := .tuple #[.pointer none, .int .i64 1]) (by simp [results, Tryz.results6, go_sem]) rfl ⟨rfl, rfl⟩

/-- The device while its first row grows. -/
structure RNew (w wr : World) (k : Nat) (v : Value) : Prop where
  dev : wr.heap[w.heap.size]? = some (.cells #[v, .slice none 0 0, .slice none 0 0, .int .i64 0, .int .i64 0, .bool false, .int .i64 0] 73 (0, 0))
  own : wr.ownsRow w.heap.size 9 1 v k (strC (fun _ => blk 0) k)
  bel : Below w.heap.size w wr

theorem RNew.push {w wr w7 w8 : World} {k : Nat} {v v8 : Value} (r : RNew w wr k v) (b7 : Below wr.heap.size wr w7) (hg8 : w7.grownBy w8 v.ownBlock) (ho8 : w8.ownsRow w.heap.size 9 1 v8 (k + 1) (strC (fun _ => blk 0) k ++ [.string (blk 0)])) :
    (∃ a n c, v8 = .slice a n c) ∧ w8.cell? ⟨w.heap.size, 0, none⟩ = some v ∧ w8.frozen? ⟨w.heap.size, 0, none⟩ = false ∧ Hid (RNew w (w8.setCell ⟨w.heap.size, 0, none⟩ v8) (k + 1) v8) := by
  have hlt : w.heap.size < wr.heap.size := (Array.getElem?_eq_some_iff.1 r.dev).1
  have e7 : w7.heap[w.heap.size]? = wr.heap[w.heap.size]? := b7.block _ hlt
  have n7 : v.ownBlock ≠ some w.heap.size := owns_not r.own r.dev (by decide)
  have e8 : w8.heap[w.heap.size]? = w7.heap[w.heap.size]? := hg8.block _ (Nat.lt_of_lt_of_le hlt b7.size) (Ne.symm n7)
  have d8 := (e8.trans e7).trans r.dev
  have n8 : v8.ownBlock ≠ some w.heap.size := owns_not ho8 d8 (by decide)
  have bel8 : Below w.heap.size w w8 := (r.bel.trans (b7.mono r.bel.size)).grown hg8 (Nat.le_trans r.bel.size b7.size) (fun j hj => (r.own.lt j hj).1)
  refine ⟨owns_slice ho8, ?_, frozen_of_row _ _ _ _ _ d8, ⟨?_, ?_, bel8.setCell (Nat.le_refl _) _⟩⟩
  · rw [cell_of_row w8 w.heap.size 0 _ _ _ d8]; rfl
  · simpa using heap_setCell_same w8 w.heap.size 0 _ _ v8 d8
  · rw [← strC_succ]
    exact owns_kept ho8 (fun j e _ => Below.heap_setCell _ _ _ _ (by rintro rfl; exact n8 e))

set_option maxHeartbeats 3200000 in
set_option maxRecDepth 100000 in
theorem rnew_any (n : Nat) (w : World) (hn1 : 1 ≤ n) (hn2 : n ≤ 8192) :
    Calls Tryz.prog 6 #[.int .i64 (n : Int)] w fun e w' => ∃ g h, e = .returned (.tuple #[.pointer (some ⟨g, 0, none⟩), .int .i64 0]) ∧ RDev w.heap.size w' g h (R0 n) ∧ Below w.heap.size w w' := by
  obtain ⟨i0, hi0, hz0, hz1, hz2⟩ := info_parts Tryz.info9
  obtain ⟨j0, hj, jz0, jz1, jz2⟩ := info_parts Tryz.info5
  obtain ⟨M, hM⟩ : ∃ M, M = madeCells (Value.int .u8 0).cells ((512 : Int).toNat * j0.size) := ⟨_, rfl⟩
  have hmk : ∀ W : World, (Instr.makeSlice 74 (.int .i64 512) (.int .i64 512)).run Tryz.prog W = .ok (.slice (some ⟨W.heap.size, 0, none⟩) 512 512) (W.alloc (.cells M 5)) := by
    intro W
    have h := run_make (P := Tryz.prog) W 74 5 j0 (.int .u8 0) Tryz.underlying74 hj jz0 .i64 .i64 512 512 (by omega) (by omega) (by rw [jz2]; omega) (by omega)
    rw [← hM] at h
    simpa using h
  have hMl : M.toList = (List.replicate 512 (0 : UInt8)).map bv := by
    rw [hM, jz1]
    show (madeCells #[Value.int .u8 0] 512).toList = _
    rw [toList_madeCells_one, List.map_replicate]
    rfl
  have hMs : M.size = 512 * 1 := by rw [hM, size_madeCells, jz1]; rfl
  have hcv : ∀ W : World, (convert 74 9 (.slice (some ⟨W.heap.size, 0, none⟩) 512 512)).run Tryz.prog (W.alloc (.cells M 5)) = .ok (.string (blk 0)) (W.alloc (.cells M 5)) := by
    intro W
    refine own_text ?_
    rw [← hMl]
    exact World.ownsRow_lit W M 512 (Nat.le_refl _) (by unfold maxLen; omega) hMs
  clear hM hMl hMs
  have d1 : decide ((n : Int) < 1) = false := by simp; omega
  have d2 : decide (8192 < (n : Int)) = false := by simp; omega
  have hr0 : RNew w (w.alloc (.cells #[.slice none 0 0, .slice none 0 0, .slice none 0 0, .int .i64 0, .int .i64 0, .bool false, .int .i64 0] 73)) 0 (.slice none 0 0) :=
    ⟨heap_alloc_new w _, World.ownsRow_nil _ _ _ _, below_alloc1 _ _⟩
  go_enter Tryz.func6, Tryz.ntmps6
  go_wp2_with fail
  go_loopw [5] (fun si wr => ∃ (k : Nat) (v : Value), k ≤ n ∧ si = .int .i64 (k : Int) ∧ RNew w wr k v) (fun si _ => n - (intOf si).toNat)
  case atStart => exact ⟨0, _, by omega, rfl, hr0⟩
  case round =>
    obtain ⟨k, v, hk, rfl, hr⟩ := hrel
    by_cases hlt : k < n
    · have hlt2 : (k : Int) < (n : Int) := by omega
      have c0 : wr.cell? ⟨w.heap.size, 0, none⟩ = some v := by rw [cell_of_row wr w.heap.size 0 _ _ _ hr.dev]; rfl
      have hcvA : (convert 74 9 (.slice (some ⟨wr.heap.size, 0, none⟩) 512 512)).run Tryz.prog (wr.alloc (.cells M 5)).drew = .ok (.string (blk 0)) (wr.alloc (.cells M 5)).drew := hcv wr.drew
      obtain ⟨z, hz⟩ : ∃ z, blk 0 = z := ⟨_, rfl⟩
      rw [hz] at hcvA
      have cA : (wr.alloc (.cells M 5)).cell? ⟨w.heap.size, 0, none⟩ = some v := ((below_alloc1 wr _).cell (World.block_lt_of_cell? wr _ c0)).trans c0
      have cB : ((wr.alloc (.cells M 5)).alloc (.cells #[.string z] 9)).cell? ⟨w.heap.size, 0, none⟩ = some v := ((below_alloc1 _ _).cell (World.block_lt_of_cell? _ _ cA)).trans cA
      have b7 : Below wr.heap.size wr ((wr.alloc (.cells M 5)).alloc (.cells #[.string z] 9)).drew := (below2 (below_alloc1 wr _) (below_alloc1 _ _)).drew
      have hown7 : Hid (((wr.alloc (.cells M 5)).alloc (.cells #[.string z] 9)).drew.ownsRow w.heap.size 9 1 v k (strC (fun _ => blk 0) k)) := owns_kept hr.own (fun j e hj => b7.block j hj)
      have hnews : Hid (∀ j u, [Value.string z][j]? = some u → ((wr.alloc (.cells M 5)).alloc (.cells #[.string z] 9)).drew.cell? ((⟨wr.heap.size + 1, 0, none⟩ : Addr).add j) = some u) := by
        show ∀ j u, _ → _
        intro j u hj
        match j, hj with
        | 0, hj =>
          simp at hj
          subst hj
          rw [Addr.add_lit]
          show ((wr.alloc (.cells M 5)).alloc (.cells #[.string z] 9)).cell? _ = _
          rw [show wr.heap.size + 1 = (wr.alloc (.cells M 5)).heap.size by simp]
          simp
      have hbase7 : Hid (w.heap.size ≤ ((wr.alloc (.cells M 5)).alloc (.cells #[.string z] 9)).drew.heap.size) := Nat.le_trans hr.bel.size b7.size
      have fin : ∀ v8 w8, w8.ownsRow w.heap.size 9 1 v8 (k + 1) (strC (fun _ => blk 0) k ++ [.string z]) → ((wr.alloc (.cells M 5)).alloc (.cells #[.string z] 9)).drew.grownBy w8 v.ownBlock →
          (∃ a n c, v8 = .slice a n c) ∧ w8.cell? ⟨w.heap.size, 0, none⟩ = some v ∧ w8.frozen? ⟨w.heap.size, 0, none⟩ = false ∧ Hid (RNew w (w8.setCell ⟨w.heap.size, 0, none⟩ v8) (k + 1) v8) := by
        intro v8 w8 ho8 hg8
        subst hz
        exact hr.push b7 hg8 ho8
      clear hr hr0 hz hcv b7
      go_wp2_with fail
      go_region_law (refine step_append_own rfl (.tmp 23) (.tmp 26) 70 rfl w.heap.size 9 i0 _ 1 16 Tryz.underlying70 hi0 hz0 hz1 hz2 rfl (by decide) v k (strC (fun _ => blk 0) k) (by simp [Act.eval]) hown7.out ⟨wr.heap.size + 1, 0, none⟩ 1 1 [.string z] (by simp [Act.eval]) rfl hnews.out (by intro u hu; simp at hu; subst hu; rfl) (by unfold maxLen; omega) (by omega) hbase7.out ?_; intro v8 w8 ho8 hg8 hk8; obtain ⟨⟨a8, l8, p8, rfl⟩, c8, f8, hfin⟩ := fin v8 w8 ho8 hg8)
      all_goals
        go_wp2_with fail
        go_roundw
        case rel => exact ⟨k + 1, _, by omega, by go_num, hfin.out⟩
        case measure => simp [intOf]; omega
    · obtain rfl : k = n := by omega
      obtain ⟨b, c, rfl⟩ : ∃ b c, v = .slice (some ⟨b, 0, none⟩) k c := by
        rcases hr.own.2 with ⟨_, h0⟩ | ⟨b, c, cur, e, _⟩
        · omega
        · exact ⟨b, c, e⟩
      have r1d : (wr.alloc (.cells #[] 9)).heap[w.heap.size]? = _ := (Below.heap_alloc wr _ _ (Array.getElem?_eq_some_iff.1 hr.dev).1).trans hr.dev
      have c10 : (wr.alloc (.cells #[] 9)).cell? ⟨w.heap.size, 0, none⟩ = some (.slice (some ⟨b, 0, none⟩) k c) := by rw [cell_of_row _ w.heap.size 0 _ _ _ r1d]; rfl
      have hmade : (wr.alloc (.cells #[] 9)).ownsRow wr.heap.size 9 1 (.slice (some ⟨wr.heap.size, 0, none⟩) 0 0) 0 [] := World.ownsRow_made wr #[] 0 (Nat.le_refl _) (Nat.zero_le _) rfl
      have hsrc := strC_src hr.own (.cells #[] 9)
      have fin : ∀ v8 w8, w8.ownsRow wr.heap.size 9 1 v8 (0 + k) ([] ++ strC (fun _ => blk 0) k) → (wr.alloc (.cells #[] 9)).grownBy w8 (Value.slice (some ⟨wr.heap.size, 0, none⟩) 0 0).ownBlock → (v8 = .slice none 0 0 ↔ Value.slice (some ⟨wr.heap.size, 0, none⟩) 0 0 = .slice none 0 0 ∧ k = 0) →
          ∃ b' c', v8 = .slice (some ⟨b', 0, none⟩) k c' ∧ w8.cell? ⟨w.heap.size, 1, none⟩ = some (.slice none 0 0) ∧ w8.frozen? ⟨w.heap.size, 1, none⟩ = false ∧
            Hid (RDev w.heap.size (w8.setCell ⟨w.heap.size, 1, none⟩ (.slice (some ⟨b', 0, none⟩) k c')) w.heap.size ⟨b, c, b', c', .slice none 0 0⟩ (R0 k) ∧ Below w.heap.size w (w8.setCell ⟨w.heap.size, 1, none⟩ (.slice (some ⟨b', 0, none⟩) k c'))) := by
        intro v8 w8 ho8 hg8 hn8
        obtain ⟨b', c', e, hb, ho⟩ := copied (B := w.heap.size) ho8 hn8 hr.bel.size
        have bl : Below wr.heap.size wr w8 := (below_alloc1 wr _).trans ((Below.refl _ _).grown hg8 (by simp) (fun j hj => by cases hj; exact Nat.le_refl _))
        have d8 : w8.heap[w.heap.size]? = _ := (bl.block _ (Array.getElem?_eq_some_iff.1 hr.dev).1).trans hr.dev
        have o8 := owns_kept (w' := w8) hr.own (fun j _ hj => bl.block j hj)
        have nb := owns_not o8 d8 (by decide)
        have nb' := owns_not ho d8 (by decide)
        have hblt : b < wr.heap.size := (hr.own.lt b rfl).2
        refine ⟨b', c', e, by rw [cell_of_row w8 w.heap.size 1 _ _ _ d8]; rfl, frozen_of_row _ _ _ _ _ d8, ⟨⟨?_, ?_, ?_, World.ownsRow_nil _ _ _ _, Nat.le_refl _, by show b ≠ b'; omega⟩, (below2 hr.bel bl).setCell (Nat.le_refl _) _⟩⟩
        · simpa [R0] using heap_setCell_same w8 w.heap.size 1 _ _ (.slice (some ⟨b', 0, none⟩) k c') d8
        · exact owns_kept o8 (fun j e _ => Below.heap_setCell _ _ _ _ (by rintro rfl; exact nb e))
        · exact owns_kept ho (fun j e _ => Below.heap_setCell _ _ _ _ (by rintro rfl; exact nb' e))
      go_wp2_with (at_builtin; refine wpList_append_own _ rfl (.tmp 31) (.tmp 35) 70 rfl wr.heap.size 9 i0 _ 1 16 Tryz.underlying70 hi0 hz0 hz1 hz2 rfl (by decide) _ 0 [] rfl hmade ⟨b, 0, none⟩ k c (strC (fun _ => blk 0) k) rfl (by rw [strC_length, Nat.mul_one]) hsrc (strC_one _ _) (by unfold maxLen; omega) (by omega) (by simp) ?_; intro v8 w8 ho8 hg8 hn8; obtain ⟨b', c', rfl, c8, f8, hfin⟩ := fin v8 w8 ho8 hg8 hn8)
      obtain ⟨r9, k9⟩ := hfin.out
      exact bodyPost_ret (v := .tuple #[.pointer (some ⟨w.heap.size, 0, none⟩), .int .i64 0]) (by simp [results, Tryz.results6, go_sem]) rfl ⟨_, _, rfl, r9, k9⟩

end Go.Proofs.YtghocbaafdnddaaGreat

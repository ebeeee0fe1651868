/- unpinned. -/
import Derived.Test.YtkjioabhdglkpaaGreatQWrite
namespace Go.Proofs.YtkjioabhdglkpaaGreat
open Go.RowKit

/-- The frames that are held and not pinned. -/
def unL (L : List (Nat × Fm)) : List (Nat × Fm) := L.filter (fun y : Nat × Fm => y.2.pins == 0)

theorem unL_step (L : List (Nat × Fm)) (k : Nat) (y : Nat × Fm) (hx : L[k]? = some y) : unL (L.take (k + 1)) = unL (L.take k) ++ (if y.2.pins = 0 then [y] else []) := by
  have hlt : k < L.length := (List.getElem?_eq_some_iff.1 hx).1
  have e : L.take (k + 1) = L.take k ++ [y] := by
    rw [List.take_add_one, hx]; rfl
  unfold unL
  rw [e, List.filter_append]
  congr 1
  by_cases q : y.2.pins = 0 <;> simp [q]

section
variable {B : Nat} {w : World} {x : PX}

set_option maxHeartbeats 1600000 in
set_option maxRecDepth 100000 in
theorem unpinned_any (h : Pd B w x) (hf : x.fv = x.hv) (hl : x.L.length ≤ 1000) :
    Calls Tryz.prog 39 #[.pointer (some ⟨x.p, 0, none⟩)] w fun e w' => ∃ v, e = .returned v ∧ w'.ownsRow w.heap.size 84 1 v (unL x.L).length (ptrs (unL x.L)) ∧ Below w.heap.size w w' := by
  obtain ⟨_, _, c2, _, _⟩ := h.cell
  obtain ⟨sa, sc, ev, hsc, _⟩ := h.hvOf
  rw [hf, ev] at c2
  have hpl := lt_of_some h.pool
  go_enter Tryz.func39, Tryz.ntmps39
  go_wp2_with fail
  go_loopw [3, 11] (fun sv si wr => ∃ k : Nat, k ≤ x.L.length ∧ si = .int .i64 (k : Int) ∧ wr.ownsRow w.heap.size 84 1 sv (unL (x.L.take k)).length (ptrs (unL (x.L.take k))) ∧ Below w.heap.size w wr) (fun _ si _ => x.L.length - (intOf si).toNat)
  case atStart => exact ⟨0, Nat.zero_le _, rfl, World.ownsRow_nil _ _ _ _, Below.refl _ _⟩
  case round =>
    obtain ⟨k, hk, rfl, hrow, hb⟩ := hrel
    obtain ⟨ta, tn, tc, rfl⟩ := owns_slice hrow
    by_cases hlt : k < x.L.length
    · have hlt2 : (k : Int) < (x.L.length : Int) := by omega
      have hx : x.L[k]? = some x.L[k] := by simp [hlt]
      generalize x.L[k] = y at hx
      obtain ⟨b, f⟩ := y
      obtain ⟨ra, rc, e, _, _, _, hra, _, d0⟩ := h.rowAt hx
      rw [ev] at e
      cases e
      obtain ⟨hfo, hBb⟩ := h.inL hx
      obtain ⟨_, _, f2, _⟩ := fobj_cell hfo
      have d0' := (hb.cell (p := ⟨ra, k, none⟩) hra).trans d0
      have f2' := (hb.cell (p := ⟨b, 2, none⟩) (lt_of_some hfo)).trans f2
      have hst := unL_step x.L k (b, f) hx
      have hul : (unL (x.L.take k)).length ≤ x.L.length := Nat.le_trans (List.length_filter_le _ _) (by rw [List.length_take]; omega)
      by_cases hp : f.pins = 0
      · have f2z : wr.cell? ⟨b, 2, none⟩ = some (.int .i64 0) := by rw [f2', hp]; rfl
        have HS : Hid (unL (x.L.take (k + 1)) = unL (x.L.take k) ++ [(b, f)]) := by show _ = _; rw [hst, if_pos hp]
        have hb2 := below2 hb (below_alloc1 wr (.cells #[.pointer (some ⟨b, 0, none⟩)] 84))
        have hr2 := owns_kept hrow (w' := wr.alloc (.cells #[.pointer (some ⟨b, 0, none⟩)] 84)) (fun k _ hk => (below_alloc1 wr _).block k hk)
        have hm2 : (wr.alloc (.cells #[.pointer (some ⟨b, 0, none⟩)] 84)).cell? ⟨wr.heap.size, 0, none⟩ = some (.pointer (some ⟨b, 0, none⟩)) := by simp
        clear hst hp f2' f2 d0 hrow
        generalize hA : unL (x.L.take k) = A at *
        go_wp2_with (at_builtin; refine wpList_append_ptr _ rfl _ _ rfl w.heap.size _ _ _ rfl hr2 wr.heap.size b rfl hm2 (by omega) hb2.size ?_; intro v' w' hrow' hfr hnew)
        go_roundw
        case rel =>
          refine ⟨k + 1, by omega, by go_num, ?_, hfr.below hb2 hb2.size (fun k e => (hr2.lt k e).1)⟩
          rw [HS.out]
          simpa [ptrs, ptr] using hrow'
        case measure => simp [intOf]; omega
      · have hp2 : ((f.pins : Int) == 0) = false := by simp; omega
        have HS : Hid (unL (x.L.take (k + 1)) = unL (x.L.take k)) := by show _ = _; rw [hst, if_neg hp, List.append_nil]
        clear hst hp f2 d0
        go_wp2_with fail
        go_roundw
        case rel => exact ⟨k + 1, by omega, by go_num, by rw [HS.out]; exact hrow, hb⟩
        case measure => simp [intOf]; omega
    · obtain rfl : k = x.L.length := by omega
      rw [List.take_length] at *
      go_wp2_with fail
      go_ret
      exact ⟨_, rfl, hrow, hb⟩
end
end Go.Proofs.YtkjioabhdglkpaaGreat

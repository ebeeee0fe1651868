/- sectors, Held, Dirty, Reads, Writes. -/
import Derived.Test.YtkjioabhdglkpaaGreatQInts
namespace Go.Proofs.YtkjioabhdglkpaaGreat
open Go.RowKit

/-- The sectors of those of which q tells true. -/
def pgs (q : Fm → Bool) (l : List Fm) : List Int := (l.filter q).map (fun f => (f.pg : Int))

theorem pgs_step (q : Fm → Bool) (L : List (Nat × Fm)) (k b : Nat) (f : Fm) (hx : L[k]? = some (b, f)) : pgs q (frs (L.take (k + 1))) = pgs q (frs (L.take k)) ++ (if q f then [(f.pg : Int)] else []) := by
  have e : L.take (k + 1) = L.take k ++ [(b, f)] := by rw [List.take_add_one, hx]; rfl
  rw [e]
  by_cases h : q f = true <;> simp [pgs, frs, h]

theorem pgs_len (q : Fm → Bool) (l : List Fm) : (pgs q l).length ≤ l.length := by
  unfold pgs
  rw [List.length_map]
  exact List.length_filter_le _ _

section
variable {B bd : Nat} {w : World} {x : PX}

set_option maxHeartbeats 1600000 in
set_option maxRecDepth 100000 in
theorem sects_any (h : Pd B w x) (hf : x.fv = x.hv) (hl : x.L.length ≤ 1000) (g : Nat) (q : Fm → Bool) (eg : ∀ args w, (callFunc g args).run Tryz.prog w = .ok (.enter g args) w) (cq : ∀ (wr : World) (b : Nat) (f : Fm), wr.heap[b]? = some (fobj f) → Calls Tryz.prog g #[.pointer (some ⟨b, 0, none⟩)] wr fun e w' => e = .returned (.bool (q f)) ∧ w' = wr) :
    Calls Tryz.prog 72 #[.pointer (some ⟨x.p, 0, none⟩), .func (.func g) #[] #[]] w fun e w' => ∃ v, e = .returned v ∧ IRow w' w.heap.size v (sortI (pgs q (frs x.L))) ∧ Below w.heap.size w w' := by
  obtain ⟨_, _, c2, _, _⟩ := h.cell
  obtain ⟨sa, sc, ev, hsc, _⟩ := h.hvOf
  rw [hf, ev] at c2
  go_enter Tryz.func72, Tryz.ntmps72
  go_wp2_with fail
  go_loopw [5, 15] (fun st si wr => ∃ k : Nat, k ≤ x.L.length ∧ si = .int .i64 (k : Int) ∧ IRow wr w.heap.size st (pgs q (frs (x.L.take k))) ∧ Below w.heap.size w wr) (fun _ si _ => x.L.length - (intOf si).toNat)
  case atStart => exact ⟨0, Nat.zero_le _, rfl, irow_nil _ _, Below.refl _ _⟩
  case round =>
    obtain ⟨k, hk, rfl, hrow, hb⟩ := hrel
    obtain ⟨ta, tc, rfl, htc, _⟩ := hrow.len
    by_cases hlt : k < x.L.length
    · have hlt2 : (k : Int) < (x.L.length : Int) := by omega
      have hx : x.L[k]? = some x.L[k] := by simp [hlt]
      generalize x.L[k] = y at hx
      obtain ⟨b, f⟩ := y
      obtain ⟨ra, rc, e, _, _, _, hra, _, d0⟩ := h.rowAt hx
      rw [ev] at e
      cases e
      obtain ⟨hfo, hBb⟩ := h.inL hx
      have hfw : wr.heap[b]? = some (fobj f) := (hb.block b (lt_of_some hfo)).trans hfo
      obtain ⟨f0, _, _, _⟩ := fobj_cell hfw
      have d0' := (hb.cell (p := ⟨ra, k, none⟩) hra).trans d0
      have hst := pgs_step q x.L k b f hx
      have hul : (pgs q (frs (x.L.take k))).length ≤ x.L.length := Nat.le_trans (pgs_len _ _) (by rw [frs_len, List.length_take]; omega)
      have cb := cq wr b f hfw
      by_cases hp : q f = true
      · have HS : Hid (pgs q (frs (x.L.take (k + 1))) = pgs q (frs (x.L.take k)) ++ [(f.pg : Int)]) := by show _ = _; rw [hst, if_pos hp]
        rw [hp] at cb
        have hb2 := below2 hb (below_alloc1 wr (.cells #[.int .i64 (f.pg : Int)] 3))
        have hr2 := hrow.below' (below_alloc1 wr (.cells #[.int .i64 (f.pg : Int)] 3))
        clear hst hp d0 hfw
        generalize hA : pgs q (frs (x.L.take k)) = A at *
        go_wp2_with fail
        refine cb.mono ?_
        rintro e w1 ⟨rfl, hw1⟩
        subst hw1
        clear cb
        go_wp2_with (at_builtin; refine wpList_append_int _ rfl _ _ rfl w.heap.size _ A [(f.pg : Int)] rfl hr2 ⟨w1.heap.size, 0, none⟩ 1 (by simp; rfl) (one_src _ _ (by simp)) (by simp; omega) hb2.size ?_; intro v' w' hrow' hfr hnew)
        go_roundw
        case rel => exact ⟨k + 1, by omega, by go_num, by rw [HS.out]; exact hrow', hfr.below hb2 hb2.size (fun k e => (hrow.blk e).1)⟩
        case measure => simp [intOf]; omega
      · have hp' : q f = false := by simpa using hp
        have HS : Hid (pgs q (frs (x.L.take (k + 1))) = pgs q (frs (x.L.take k))) := by show _ = _; rw [hst, if_neg hp, List.append_nil]
        rw [hp'] at cb
        clear hst hp d0 hfw hp'
        generalize hA : pgs q (frs (x.L.take k)) = A at *
        go_wp2_with fail
        refine cb.mono ?_
        rintro e w1 ⟨rfl, hw1⟩
        subst hw1
        clear cb
        go_wp2_with fail
        go_roundw
        case rel => exact ⟨k + 1, by omega, by go_num, by rw [HS.out]; exact hrow, hb⟩
        case measure => simp [intOf]; omega
    · obtain rfl : k = x.L.length := by omega
      rw [List.take_length] at *
      have hul : (pgs q (frs x.L)).length ≤ x.L.length := Nat.le_trans (pgs_len _ _) (by rw [frs_len]; omega)
      have cS := sort_any wr w.heap.size _ _ hrow (by omega)
      clear h cq eg
      generalize hA : pgs q (frs x.L) = A at *
      go_wp2_with fail
      refine cS.mono ?_
      rintro e w1 ⟨rfl, r1, fr1⟩
      clear cS
      go_wp2_with fail
      go_ret
      exact ⟨_, rfl, by rw [hA]; exact r1, fr1.below hb hb.size (fun k e => (hrow.blk e).1)⟩

set_option maxRecDepth 100000 in
theorem dirty1 (wr : World) (b : Nat) (f : Fm) (h : wr.heap[b]? = some (fobj f)) : Calls Tryz.prog 73 #[.pointer (some ⟨b, 0, none⟩)] wr fun e w' => e = .returned (.bool f.dirty) ∧ w' = wr := by
  obtain ⟨_, _, _, f3⟩ := fobj_cell h
  clear h
  go_enter Tryz.func73, Tryz.ntmps73
  go_wp2_with fail
  go_ret
  exact ⟨rfl, rfl⟩

/-- What Held and Dirty tell. -/
def heldS (S : St) : List Int := sortI (pgs (fun _ => true) S.l)
def dirtyS (S : St) : List Int := sortI (pgs (fun f => f.dirty) S.l)

set_option maxRecDepth 100000 in
theorem dirty_all (h : Pd B w x) (k : Good bd x) : Calls Tryz.prog 46 #[.pointer (some ⟨x.p, 0, none⟩)] w fun e w' => ∃ v, e = .returned v ∧ IRow w' w.heap.size v (dirtyS x.st) ∧ Below w.heap.size w w' := by
  have hl := k.len
  have c := sects_any h k.fv (by omega) 73 (fun f => f.dirty) (enters_of Tryz.func73 (by kernel_rfl) rfl) dirty1
  clear h k
  go_enter Tryz.func46, Tryz.ntmps46
  go_wp2_with fail
  refine c.mono ?_
  rintro e w1 ⟨v, rfl, r, hb⟩
  obtain ⟨va, vc, rfl, _, _⟩ := r.len
  clear c
  go_wp2_with fail
  go_ret
  exact ⟨_, rfl, r, hb⟩

end
end Go.Proofs.YtkjioabhdglkpaaGreat

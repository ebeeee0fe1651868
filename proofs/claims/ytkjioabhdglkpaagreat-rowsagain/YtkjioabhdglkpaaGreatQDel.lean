/- without: a frame is struck from the row of those that are held. -/
import Derived.Test.YtkjioabhdglkpaaGreatQFind
import Derived.Test.YtkjioabhdglkpaaGreatShelf
import Derived.LaidEqlPtr
namespace Go.Proofs.YtkjioabhdglkpaaGreat
open Go.RowKit Go.Shelf Go.Lib Go.Sort

def isFm : Option Obj → Bool
  | some (.cells _ t (0, 0)) => t == 117
  | _ => false

theorem isFm_fobj (f : Fm) : isFm (some (fobj f)) = true := rfl
theorem isFm_cells {o : Option Obj} (h : isFm o = true) : ∃ c t, o = some (.cells c t (0, 0)) := by
  unfold isFm at h
  split at h
  · exact ⟨_, _, rfl⟩
  · cases h

/-- A frame's address; of anything else: none. -/
def encP (w : World) : Option Nat → Value
  | none => .pointer none
  | some b => if isFm w.heap[b]? then .pointer (some ⟨b, 0, none⟩) else .pointer none

theorem fm_info : ∃ j, Tryz.prog.info? 117 = some j ∧ j.size = 4 := by
  have h : (Tryz.prog.info? 117).map (·.size) = some 4 := by kernel_rfl
  obtain ⟨i, hi, hb⟩ := Option.map_eq_some_iff.1 h
  exact ⟨i, hi, hb⟩

theorem run_same (a : Nat) (w : World) : (binOp .eql 84 (.pointer (some ⟨a, 0, none⟩)) (.pointer (some ⟨a, 0, none⟩))).run Tryz.prog w = .ok (.bool true) w := by
  obtain ⟨j, hj, _⟩ := fm_info
  exact run_eql_ptr_same w _ Tryz.underlying84 hj
theorem run_other (a b : Nat) (w : World) (hne : a ≠ b) (ha : isFm w.heap[a]? = true) (hb : isFm w.heap[b]? = true) : (binOp .eql 84 (.pointer (some ⟨a, 0, none⟩)) (.pointer (some ⟨b, 0, none⟩))).run Tryz.prog w = .ok (.bool false) w := by
  obtain ⟨j, hj, hs⟩ := fm_info
  obtain ⟨c1, t1, h1⟩ := isFm_cells ha
  obtain ⟨c2, t2, h2⟩ := isFm_cells hb
  exact run_eql_ptr_other w Tryz.underlying84 hj (by rw [hs]; decide) (by intro e; injection e with e; exact hne e) h1 h2
theorem run_none (b : Nat) (w : World) : (binOp .eql 84 (.pointer none) (.pointer (some ⟨b, 0, none⟩))).run Tryz.prog w = .ok (.bool false) w := by
  have h : ∀ d : Nat, (Op.equalIn (d + 1) 84 (.pointer none) (.pointer (some ⟨b, 0, none⟩))).run Tryz.prog w = .ok false w := fun d => by
    simp [Op.equalIn, run_underlying Tryz.underlying84]
  simp only [binOp]
  simp [Op.equal, Op.maxDepth, h 9999]

set_option maxRecDepth 100000 in
theorem del_gives (w : World) (b BX : Nat) (o : Option Nat) (W : World) (hc : W.cell? ⟨BX, 0, none⟩ = some (.pointer (some ⟨b, 0, none⟩))) (hb : isFm w.heap[b]? = true) (hW : ∀ k : Nat, isFm w.heap[k]? = true → isFm W.heap[k]? = true) :
    FnGives Tryz.prog 92 #[.pointer (some ⟨BX, 0, none⟩)] #[encP w o] (.bool (o == some b)) W := by
  show Calls Tryz.prog 92 #[encP w o, .pointer (some ⟨BX, 0, none⟩)] W _
  have hno : ∀ r : Bool, r = false → Calls Tryz.prog 92 #[.pointer none, .pointer (some ⟨BX, 0, none⟩)] W fun e w' => e = .returned (.bool r) ∧ ∃ q, w' = W.drewN q := by
    rintro r rfl
    have hr := run_none b W
    clear hb hW
    go_enter Tryz.func92, Tryz.ntmps92
    go_wp2_with fail
    go_ret
    exact ⟨rfl, 0, rfl⟩
  cases o with
  | none => exact hno _ rfl
  | some k =>
    simp only [encP]
    by_cases hk : k = b
    · subst hk
      have e : ((some k : Option Nat) == some k) = true := by simp
      rw [e, if_pos hb]
      have hr := run_same k W
      clear hb hW hno
      go_enter Tryz.func92, Tryz.ntmps92
      go_wp2_with fail
      go_ret
      exact ⟨rfl, 0, rfl⟩
    · have e : ((some k : Option Nat) == some b) = false := by simpa using hk
      rw [e]
      by_cases hv : isFm w.heap[k]? = true
      · rw [if_pos hv]
        have hr := run_other k b W hk (hW k hv) (hW b hb)
        clear hb hW hno
        go_enter Tryz.func92, Tryz.ntmps92
        go_wp2_with fail
        go_ret
        exact ⟨rfl, 0, rfl⟩
      · rw [if_neg hv]
        exact hno _ rfl

theorem fr_putRow {α : Type} [Inhabited α] (enc : α → Value) (w : World) (q g : Nat) (d : Array α) : Fr (fun k => k = g) w (putRow enc (Sort.ahead w q) g 0 d) :=
  ⟨rfl, rfl, rfl, by simp [putRow, mapBlock, Sort.ahead], fun k _ e => by simp [putRow, mapBlock, Sort.ahead, Array.getElem?_modify, show g ≠ k from fun z => e z.symm]⟩

theorem ptrs_enc (w : World) (L : List (Nat × Fm)) (h : ∀ y ∈ L, isFm w.heap[y.1]? = true) : (L.map (fun y : Nat × Fm => some y.1)).map (encP w) = ptrs L := by
  rw [List.map_map]
  exact List.map_congr_left (fun y hy => by simp [encP, ptr, h y hy])

set_option maxHeartbeats 800000 in
theorem idxf_nil (fv : Value) (w : World) : Calls Tryz.prog 124 #[.slice none 0 0, fv] w fun e w' => e = .returned (.int .i64 (-1)) ∧ w' = w := by
  go_enter Tryz.func124, Tryz.ntmps124
  go_wp2_with fail
  refine wp_loop_rounds 1 ?_
  rw [rounds_succ]
  go_wp2_with fail
  go_ret
  exact ⟨rfl, rfl⟩

set_option maxHeartbeats 800000 in
theorem del_nil (fv : Value) (w : World) : Calls Tryz.prog 91 #[.slice none 0 0, fv] w fun e w' => e = .returned (.slice none 0 0) ∧ w' = w := by
  have c := idxf_nil fv
  go_enter Tryz.func91, Tryz.ntmps91
  go_wp2_with fail
  refine (c _).mono ?_
  rintro e w1 ⟨rfl, rfl⟩
  go_wp2_with fail
  go_ret
  exact ⟨rfl, rfl⟩

section
variable {B : Nat} {w : World} {x : PX}

theorem zero_ptr (v : World) : ∀ w, (zeroValue (Tryz.laysDel_ren.t 23)).run Tryz.prog w = .ok (encP v none) w := Tryz.zeroValue84

theorem del_row (h : Pd B w x) (b BX : Nat) (hc : w.cell? ⟨BX, 0, none⟩ = some (.pointer (some ⟨b, 0, none⟩))) (hB : BX < w.heap.size) (hne : x.hv.ownBlock ≠ some BX) (hbF : isFm w.heap[b]? = true) (hl : x.L.length ≤ 1000) :
    Calls Tryz.prog 91 #[x.hv, .func (.func 92) #[] #[.pointer (some ⟨BX, 0, none⟩)]] w fun e w' => ∃ hv', e = .returned hv' ∧ w'.ownsRow B 84 1 hv' (x.L.filter (fun y : Nat × Fm => !(y.1 == b))).length (ptrs (x.L.filter (fun y : Nat × Fm => !(y.1 == b)))) ∧ Fr (fun k => x.hv.ownBlock = some k) w w' ∧ ∀ k, hv'.ownBlock = some k → x.hv.ownBlock = some k := by
  by_cases hn : x.hv = .slice none 0 0
  · have hL : x.L = [] := by
      rcases h.row.2 with ⟨_, e⟩ | ⟨g, cap, cur, e, _⟩
      · exact List.eq_nil_of_length_eq_zero e
      · rw [hn] at e; cases e
    rw [hn, hL]
    refine (del_nil _ w).mono ?_
    rintro e w1 ⟨rfl, rfl⟩
    exact ⟨_, rfl, World.ownsRow_nil _ _ _ _, Fr.refl _ _, fun k e => by simp [Value.ownBlock] at e⟩
  · have hrow := h.row
    have hfm : ∀ y ∈ x.L, isFm w.heap[y.1]? = true := fun y hy => by rw [(h.fr y (List.mem_append_left _ hy)).1]; exact isFm_fobj _
    rw [← ptrs_enc w x.L hfm] at hrow
    obtain ⟨g, cap, ev, _, hg, hnc, _, hzl, hH⟩ := holds_of_ownsRow hrow hn
    rw [ev] at hne hrow ⊢
    have hne' : BX ≠ g := fun e => hne (by rw [e]; rfl)
    have eg : ∀ args w, (callFunc 92 args).run Tryz.prog w = .ok (.enter 92 args) w := enters_of Tryz.func92 (by kernel_rfl) rfl
    have hcon := AnyE.slices_DeleteFunc Tryz.laysDel (encP w) (fun o => by cases o with | none => rfl | some k => simp only [encP]; by_cases q : isFm w.heap[k]? = true <;> simp [q, Value.oneCell']) (fun o => o == some b) 92 #[.pointer (some ⟨BX, 0, none⟩)] eg none (zero_ptr w) g 0 cap (x.L.map (fun y : Nat × Fm => some y.1)).toArray w
      (fun W o hb => del_gives w b BX o W ((hb.cell (p := ⟨BX, 0, none⟩) hB).trans hc) hbF (fun k hk => by obtain ⟨c1, t1, h1⟩ := isFm_cells hk; rw [hb.block k (lt_of_some h1)]; exact hk))
      (fun n os dk o _ => del_gives w b BX o _ (by
        unfold sortWorld
        rw [cell?_grow _ _ _ (by show BX < (putRow _ _ _ _ _).heap.size; rw [size_putRow]; exact hB), cell?_putRow_other _ _ g 0 _ _ (Or.inl hne')]
        exact hc) hbF (fun k hk => by
          obtain ⟨c1, t1, h1⟩ := isFm_cells hk
          have hkl := lt_of_some h1
          have hkg : k ≠ g := by
            rintro rfl
            have t1 := own_tag h.row (k := k) (by rw [ev]; rfl)
            rw [h1] at t1 hk
            simp only [tagOf, Option.some.injEq] at t1
            subst t1
            simp [isFm] at hk
          have e0 : (sortWorld (encP w) w g 0 n dk os).heap[k]? = w.heap[k]? := by
            unfold sortWorld
            rw [Sort.heap_grow_old _ _ (by show k < (putRow _ _ _ _ _).heap.size; rw [size_putRow]; exact hkl)]
            exact (fr_putRow (encP w) w n g dk).block k hkl hkg
          rw [e0]; exact hk)) hH (by simp; omega) (by simp; omega)
    change Calls Tryz.prog 91 _ _ _ at hcon
    have e1 : (x.L.map (fun y : Nat × Fm => some y.1)).toArray.size = x.L.length := by simp
    rw [e1] at hcon
    refine hcon.mono ?_
    rintro e w' ⟨rfl, q, rfl⟩
    have e2 : ((x.L.map (fun y : Nat × Fm => some y.1)).toArray.toList.filter fun o => !(o == some b)) = (x.L.filter (fun y : Nat × Fm => !(y.1 == b))).map (fun y : Nat × Fm => some y.1) := by
      rw [List.toList_toArray, List.filter_map]
      congr 1
    rw [e2]
    have e3 : (x.L.filter (fun y : Nat × Fm => !(y.1 == b))).length ≤ x.L.length := List.length_filter_le _ _
    refine ⟨_, rfl, ?_, ?_, ?_⟩
    · have := ownsRow_putRow (q := q) (k := (x.L.filter (fun y : Nat × Fm => !(y.1 == b))).length) (ys := (x.L.filter (fun y : Nat × Fm => !(y.1 == b))).map (fun y : Nat × Fm => some y.1) ++ List.replicate (x.L.length - ((x.L.filter (fun y : Nat × Fm => !(y.1 == b))).map (fun y : Nat × Fm => some y.1)).length) none) hrow (by simp; omega) e3
      rw [List.take_left' (by simp), ptrs_enc w _ (fun y hy => hfm y (List.mem_filter.1 hy).1)] at this
      simpa using this
    · have := fr_putRow (encP w) w q g (((x.L.filter (fun y : Nat × Fm => !(y.1 == b))).map (fun y : Nat × Fm => some y.1)) ++ List.replicate (x.L.length - ((x.L.filter (fun y : Nat × Fm => !(y.1 == b))).map (fun y : Nat × Fm => some y.1)).length) none).toArray
      exact ⟨this.os, this.tape, this.output, this.size, fun k hk hn => this.block k hk (fun e => hn (by rw [e]; rfl))⟩
    · exact fun k e => e

theorem filt_perm (L : List (Nat × Fm)) (b : Nat) (O : List (Nat × Fm)) : (L.filter (fun y : Nat × Fm => !(y.1 == b)) ++ (L.filter (fun y : Nat × Fm => y.1 == b) ++ O)).Perm (L ++ O) := by
  rw [← List.append_assoc]
  refine List.Perm.append_right O ?_
  exact (List.perm_append_comm).trans (List.filter_append_perm _ _)

set_option maxHeartbeats 800000 in
theorem without_any (h : Pd B w x) (hf : x.fv = x.hv) (hl : x.L.length ≤ 1000) (b : Nat) (hbF : isFm w.heap[b]? = true) :
    Calls Tryz.prog 66 #[.pointer (some ⟨x.p, 0, none⟩), .pointer (some ⟨b, 0, none⟩)] w fun e w' => ∃ hv', e = .returned hv' ∧ PTo B w x { x with hv := hv', L := x.L.filter (fun y : Nat × Fm => !(y.1 == b)), O := x.L.filter (fun y : Nat × Fm => y.1 == b) ++ x.O } w' := by
  obtain ⟨_, _, c2, _, _⟩ := h.cell
  rw [hf] at c2
  have hb := below_alloc1 w (.cells #[.pointer (some ⟨b, 0, none⟩)] 84)
  have h1 := h.below hb
  have c := del_row h1 b w.heap.size (by simp) (by simp) (fun e => by have := (h.row.lt _ e).2; omega) (by obtain ⟨c1, t1, h1⟩ := isFm_cells hbF; rw [hb.block b (lt_of_some h1)]; exact hbF) hl
  have d2 := (hb.cell (p := ⟨x.p, 2, none⟩) (lt_of_some h.pool)).trans c2
  have H : Hid (Pd B w x) := h
  have H1 : Hid (Pd B (w.alloc (.cells #[.pointer (some ⟨b, 0, none⟩)] 84)) x) := h1
  obtain ⟨sa, sc, ev, _, _⟩ := h.hvOf
  have EV : Hid (x.hv = .slice sa x.L.length sc) := ev
  rw [ev] at d2
  have c' := c
  rw [ev] at c'
  clear h h1 hf c c2 ev
  go_enter Tryz.func66, Tryz.ntmps66
  go_wp2_with fail
  refine c'.mono ?_
  rintro e w2 ⟨hv', rfl, ho, hfr, hnew⟩
  go_wp2_with fail
  go_ret
  refine ⟨hv', rfl, ?_⟩
  rw [← EV.out] at hfr hnew
  exact (PTo.of_below H.out hb).trans (H1.out.reRow hv' _ _ hfr ho (filt_perm _ _ _) (fun k e => Or.inl (hnew k e)))
end
end Go.Proofs.YtkjioabhdglkpaaGreat

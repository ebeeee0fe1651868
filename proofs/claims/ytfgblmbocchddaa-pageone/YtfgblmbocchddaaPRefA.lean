/- The document's page in memory: first, size, has, Get, Slots. -/
import Derived.Test.YtfgblmbocchddaaPStep
namespace Go.Proofs.Ytfgblmbocchddaa
open Go.RowKit

/-- The document's page: its box, its row of slots. -/
structure Pgr (B : Nat) (w : World) (qb : Nat) (v : Value) (l : List Sl) : Prop where
  box : w.heap[qb]? = some (.cells #[v] 29 (0, 0))
  row : Rw 63 rf w B v l
  qB : B ≤ qb
  ne : v.ownBlock ≠ some qb
def footP (qb : Nat) (v : Value) (k : Nat) : Prop := k = qb ∨ v.ownBlock = some k

/-- What a call makes of it. -/
def PTo (B : Nat) (w : World) (qb : Nat) (v : Value) (l' : List Sl) (w' : World) : Prop :=
  ∃ v', Pgr B w' qb v' l' ∧ Fr (footP qb v) w w' ∧ ∀ k, v'.ownBlock = some k → v.ownBlock = some k ∨ w.heap.size ≤ k

section
variable {B : Nat} {w w' : World} {qb : Nat} {v : Value} {l : List Sl}
theorem Pgr.qlt (h : Pgr B w qb v l) : qb < w.heap.size := (Array.getElem?_eq_some_iff.1 h.box).1
theorem Pgr.lt (h : Pgr B w qb v l) : ∀ k, footP qb v k → B ≤ k ∧ k < w.heap.size := by
  rintro k (rfl | r)
  · exact ⟨h.qB, h.qlt⟩
  · exact h.row.blk r
theorem Pgr.kept (h : Pgr B w qb v l) (hk : ∀ k, footP qb v k → w'.heap[k]? = w.heap[k]?) : Pgr B w' qb v l :=
  ⟨(hk qb (Or.inl rfl)).trans h.box, h.row.kept (fun k e => hk k (Or.inr e)), h.qB, h.ne⟩
theorem Pgr.below (h : Pgr B w qb v l) (hb : Below w.heap.size w w') : Pgr B w' qb v l := h.kept (fun k r => hb.block k (h.lt k r).2)
theorem Pgr.cell (h : Pgr B w qb v l) : w.cell? ⟨qb, 0, none⟩ = some v ∧ w.frozen? ⟨qb, 0, none⟩ = false :=
  ⟨by simp [World.cell?, h.box], frozen_of_row w qb 0 _ _ h.box⟩
theorem Pgr.mono {B' : Nat} (h : Pgr B w qb v l) (hB : B' ≤ B) : Pgr B' w qb v l := ⟨h.box, h.row.mono hB, Nat.le_trans hB h.qB, h.ne⟩
theorem PTo.same (h : Pgr B w qb v l) : PTo B w qb v l w := ⟨v, h, Fr.refl _ _, fun _ e => Or.inl e⟩
/-- The box, written anew. -/
theorem Pgr.put {v' : Value} {l' : List Sl} (h : Pgr B w qb v l) (r : Rw 63 rf w B v' l') (hn : v'.ownBlock ≠ some qb) : Pgr B (w.setCell ⟨qb, 0, none⟩ v') qb v' l' := by
  refine ⟨?_, r.kept (fun k e => Below.heap_setCell _ _ _ _ (fun (q : k = qb) => hn (by rw [e, q]))), h.qB, hn⟩
  have := heap_setCell_same w qb 0 #[v] _ v' h.box
  exact this
/-- The slots, written anew in their place. -/
theorem Pgr.over {l' : List Sl} (h : Pgr B w qb v l) (r : Rw 63 rf w' B v l') (f : Fr (fun k => v.ownBlock = some k) w w') : Pgr B w' qb v l' :=
  ⟨(f.block qb h.qlt h.ne).trans h.box, r, h.qB, h.ne⟩
end

set_option maxHeartbeats 800000 in
set_option maxRecDepth 100000 in
theorem rfirst_any {B : Nat} {w : World} {qb : Nat} {v : Value} {l : List Sl} (h : Pgr B w qb v l) (hl : l.length ≤ 1000) (F : Nat) (HF : Hid (first l = F)) :
    Calls Try.prog 45 #[.pointer (some ⟨qb, 0, none⟩)] w fun e w' => e = .returned (.int .i64 (F : Int)) ∧ w' = w := by
  obtain ⟨hc, _⟩ := h.cell
  obtain ⟨a, c, hv, hlc, _⟩ := h.row.len
  subst hv
  have hfl := first_le l
  have HFl : Hid (first l ≤ l.length) := hfl
  clear hfl
  go_enter Try.func45, Try.ntmps45
  go_wp2_with fail
  go_loop [3] (fun si => ∃ k : Nat, k ≤ F ∧ si = .int .i64 (k : Int)) (fun si => l.length - (intOf si).toNat)
  case atStart => exact ⟨0, Nat.zero_le _, rfl⟩
  case round =>
    obtain ⟨k, hk, rfl⟩ := hrel
    by_cases hlt : k < l.length
    · have hlt2 : (k : Int) < (l.length : Int) := by omega
      by_cases hf : k < F
      · obtain ⟨r, hx⟩ := first_lt l k (by rw [HF.out]; exact hf)
        obtain ⟨b, c', e, _, _, _, _, _, c1, _⟩ := h.row.cell hx
        cases e
        have c1' : w.cell? ⟨b, k * 2 + 1, none⟩ = some (.bool true) := c1
        clear c1
        go_wp2_with fail
        go_round
        case rel => exact ⟨k + 1, by omega, by go_num⟩
        case measure => simp [intOf]; omega
      · obtain rfl : k = F := by omega
        have hx := first_none l (by rw [HF.out]; exact hlt)
        rw [HF.out] at hx
        obtain ⟨b, c', e, _, _, _, _, _, c1, _⟩ := h.row.cell hx
        cases e
        have c1' : w.cell? ⟨b, k * 2 + 1, none⟩ = some (.bool false) := c1
        clear c1
        go_wp2_with fail
        go_ret
        exact ⟨rfl, rfl⟩
    · have hlt2 : ¬ (k : Int) < (l.length : Int) := by omega
      have HE : Hid (l.length = F) := by have h1 := HFl.out; rw [HF.out] at h1; show _ = _; omega
      go_wp2_with fail
      go_ret
      exact ⟨by rw [← HE.out]; rfl, rfl⟩

set_option maxHeartbeats 800000 in
set_option maxRecDepth 100000 in
theorem rsize_any {B : Nat} {w : World} {qb : Nat} {v : Value} {l : List Sl} (h : Pgr B w qb v l) (hl : l.length ≤ 1000) (hr : ∀ r, some r ∈ l → r.size ≤ 400) (R : Int) (HR : Hid (4 + 4 * (l.length : Int) + (tot l : Int) = R)) :
    Calls Try.prog 46 #[.pointer (some ⟨qb, 0, none⟩)] w fun e w' => e = .returned (.int .i64 R) ∧ w' = w := by
  obtain ⟨hc, _⟩ := h.cell
  obtain ⟨a, c, hv, hlc, _⟩ := h.row.len
  subst hv
  go_enter Try.func46, Try.ntmps46
  go_wp2_with fail
  go_loop [3, 4] (fun sn si => ∃ k : Nat, k ≤ l.length ∧ si = .int .i64 (k : Int) ∧ sn = .int .i64 (4 + 4 * (l.length : Int) + (tot (l.take k) : Int)) ∧ tot (l.take k) ≤ 400 * k) (fun _ si => l.length - (intOf si).toNat)
  case atStart => exact ⟨0, Nat.zero_le _, rfl, by simp [tot], by simp [tot]⟩
  case round =>
    obtain ⟨k, hk, rfl, rfl, ht⟩ := hrel
    by_cases hlt : k < l.length
    · have hlt2 : (k : Int) < (l.length : Int) := by omega
      have hx : l[k]? = some l[k] := by simp [hlt]
      generalize l[k] = s at hx
      obtain ⟨b, c', e, _, _, _, _, c0, _⟩ := h.row.cell hx
      cases e
      have hmem := List.mem_of_getElem? hx
      have hts : tot (l.take (k + 1)) = tot (l.take k) + (rowOf s).size := by rw [take_snoc l k s hx, tot_append]; simp [tot]
      have hs : (rowOf s).size ≤ 400 := by
        cases s with
        | none => exact Nat.zero_le _
        | some r => exact hr r hmem
      have c0' : w.cell? ⟨b, k * 2, none⟩ = some (.string (rowOf s)) := c0
      clear c0
      generalize rowOf s = rw0 at *
      generalize tot (l.take k) = t at *
      go_wp2_with fail
      go_round
      case rel => exact ⟨k + 1, by omega, by go_num, by rw [hts]; go_num, by omega⟩
      case measure => simp [intOf]; omega
    · obtain rfl : k = l.length := by omega
      rw [List.take_length] at *
      have e : 4 + 4 * (l.length : Int) + (tot l : Int) = R := HR.out
      go_wp2_with fail
      go_ret
      exact ⟨by rw [← e]; rfl, rfl⟩

set_option maxHeartbeats 1600000 in
set_option maxRecDepth 100000 in
theorem rhas_any {B : Nat} {w : World} {qb : Nat} {v : Value} {l : List Sl} (h : Pgr B w qb v l) (_hl : l.length ≤ 1000) (k : Int) (hk : i64ok k) (b : Bool) (HB : Hid ((rowAt l k).isSome = b)) :
    Calls Try.prog 32 #[.pointer (some ⟨qb, 0, none⟩), .int .i64 k] w fun e w' => e = .returned (.bool b) ∧ w' = w := by
  obtain ⟨hc, _⟩ := h.cell
  obtain ⟨a, c, hv, hlc, _⟩ := h.row.len
  subst hv
  obtain ⟨hk0, hk1⟩ := hk
  by_cases h0 : 0 ≤ k
  · obtain ⟨i, rfl⟩ : ∃ i : Nat, k = (i : Int) := ⟨k.toNat, by omega⟩
    by_cases h1 : i < l.length
    · have hx : l[i]? = some l[i] := by simp [h1]
      generalize l[i] = s at hx
      obtain ⟨b', c', e, _, _, _, _, _, c1, _⟩ := h.row.cell hx
      cases e
      obtain rfl : s.isSome = b := by
        have := HB.out
        unfold rowAt at this
        rw [if_pos (by omega), Int.toNat_natCast, hx] at this
        exact this
      have c1' : w.cell? ⟨b', i * 2 + 1, none⟩ = some (.bool s.isSome) := c1
      have hi : (i : Int) < (l.length : Int) := by omega
      clear c1 HB
      generalize s.isSome = q at *
      go_enter Try.func32, Try.ntmps32
      go_wp2_with fail
      go_ret
      exact ⟨rfl, rfl⟩
    · have hi : ¬ (i : Int) < (l.length : Int) := by omega
      obtain rfl : b = false := by
        have := HB.out
        unfold rowAt at this
        rw [if_pos (by omega), Int.toNat_natCast, List.getElem?_eq_none (by omega)] at this
        exact this.symm
      go_enter Try.func32, Try.ntmps32
      go_wp2_with fail
      go_ret
      exact ⟨rfl, rfl⟩
  · have h02 : ¬ (0 : Int) ≤ k := h0
    obtain rfl : b = false := by
      have := HB.out
      unfold rowAt at this
      rw [if_neg h0] at this
      exact this.symm
    go_enter Try.func32, Try.ntmps32
    go_wp2_with fail
    go_ret
    exact ⟨rfl, rfl⟩

set_option maxHeartbeats 1600000 in
set_option maxRecDepth 100000 in
theorem rget_any {B : Nat} {w : World} {qb : Nat} {v : Value} {l : List Sl} (h : Pgr B w qb v l) (hl : l.length ≤ 1000) (k : Int) (hk : i64ok k) :
    Calls Try.prog 16 #[.pointer (some ⟨qb, 0, none⟩), .int .i64 k] w fun e w' => e = .returned (.tuple #[.string (rowOf (rowAt l k)), .int .i64 (delE l k)]) ∧ w' = w := by
  obtain ⟨hc, _⟩ := h.cell
  cases hr : rowAt l k with
  | none =>
    have hE : delE l k = 60 := by unfold delE; rw [hr]
    rw [hE]
    have cH := rhas_any h hl k hk false (by rw [hr]; exact rfl)
    clear hE hr
    go_enter Try.func16, Try.ntmps16
    go_wp2_with fail
    refine cH.mono ?_
    rintro e w1 ⟨rfl, rfl⟩
    go_wp2_with fail
    go_ret2
    exact ⟨rfl, rfl⟩
  | some r =>
    have hE : delE l k = 0 := by unfold delE; rw [hr]
    rw [hE]
    have cH := rhas_any h hl k hk true (by rw [hr]; exact rfl)
    obtain ⟨h0, hx⟩ := rowAt_some hr
    obtain ⟨i, rfl⟩ : ∃ i : Nat, k = (i : Int) := ⟨k.toNat, by omega⟩
    rw [Int.toNat_natCast] at hx
    have h1 : i < l.length := (List.getElem?_eq_some_iff.1 hx).1
    obtain ⟨b', c', e, _, _, _, _, c0, _⟩ := h.row.cell hx
    subst e
    have c0' : w.cell? ⟨b', i * 2, none⟩ = some (.string r) := c0
    clear hE hr c0
    go_enter Try.func16, Try.ntmps16
    go_wp2_with fail
    refine cH.mono ?_
    rintro e w1 ⟨rfl, e1⟩
    rw [e1]
    go_wp2_with fail
    go_ret2
    exact ⟨rfl, rfl⟩

set_option maxHeartbeats 1600000 in
set_option maxRecDepth 100000 in
theorem rslots_any {B : Nat} {w : World} {qb : Nat} {v : Value} {l : List Sl} (h : Pgr B w qb v l) (hl : l.length ≤ 1000) (L : List Int) (HL : Hid (slotsF l 0 = L)) :
    Calls Try.prog 15 #[.pointer (some ⟨qb, 0, none⟩)] w fun e w' => ∃ v, e = .returned v ∧ IRow w' w.heap.size v L ∧ Below w.heap.size w w' := by
  obtain ⟨hc, _⟩ := h.cell
  have hq := h.qlt
  obtain ⟨sa, sc, hv, hlc, _⟩ := h.row.len
  subst hv
  go_enter Try.func15, Try.ntmps15
  go_wp2_with fail
  go_loopw [3, 4] (fun st si wr => ∃ k : Nat, k ≤ l.length ∧ si = .int .i64 (k : Int) ∧ IRow wr w.heap.size st (slotsF (l.take k) 0) ∧ Below w.heap.size w wr) (fun _ si _ => l.length - (intOf si).toNat)
  case atStart => exact ⟨0, Nat.zero_le _, rfl, irow_nil _ _, Below.refl _ _⟩
  case round =>
    obtain ⟨k, hk, rfl, hrow, hb⟩ := hrel
    obtain ⟨ta, tc, rfl, htc, _⟩ := hrow.len
    have hc' : wr.cell? ⟨qb, 0, none⟩ = some (.slice sa l.length sc) := (hb.cell (p := ⟨qb, 0, none⟩) hq).trans hc
    by_cases hlt : k < l.length
    · have hlt2 : (k : Int) < (l.length : Int) := by omega
      have hx : l[k]? = some l[k] := by simp [hlt]
      generalize l[k] = s at hx
      have hsl := slotsF_len (l.take k) 0
      rw [List.length_take] at hsl
      have hst := slots_step l k s hx
      obtain ⟨b, c', e, _, _, _, hbl, c0, c1, _⟩ := h.row.cell hx
      cases e
      generalize slotsF (l.take k) 0 = A at *
      cases s with
      | none =>
        have d1 : wr.cell? ⟨b, k * 2 + 1, none⟩ = some (.bool false) := (hb.cell (p := ⟨b, k * 2 + 1, none⟩) hbl).trans c1
        have HS : Hid (slotsF (l.take (k + 1)) 0 = A) := by show _ = _; rw [hst]; simp
        clear c0 c1 hst
        go_wp2_with fail
        go_roundw
        case rel => exact ⟨k + 1, by omega, by go_num, by rw [HS.out]; exact hrow, hb⟩
        case measure => simp [intOf]; omega
      | some r =>
        have d1 : wr.cell? ⟨b, k * 2 + 1, none⟩ = some (.bool true) := (hb.cell (p := ⟨b, k * 2 + 1, none⟩) hbl).trans c1
        have HS : Hid (slotsF (l.take (k + 1)) 0 = A ++ [(k : Int)]) := by show _ = _; rw [hst]
        have hb2 := below2 hb (below_alloc1 wr (.cells #[.int .i64 (k : Int)] 3))
        have hr2 := hrow.below' (below_alloc1 wr (.cells #[.int .i64 (k : Int)] 3))
        clear c0 c1 hst
        go_wp2_with (at_builtin; refine wpList_append_int _ rfl _ _ rfl w.heap.size _ A [(k : Int)] rfl hr2 ⟨wr.heap.size, 0, none⟩ 1 (by simp; rfl) (one_src _ _ (by simp)) (by simp; omega) hb2.size ?_; intro v' w' hrow' hfr hnew)
        go_roundw
        case rel => exact ⟨k + 1, by omega, by go_num, by rw [HS.out]; exact hrow', hfr.below hb2 hb2.size (fun k e => (hrow.blk e).1)⟩
        case measure => simp [intOf]; omega
    · obtain rfl : k = l.length := by omega
      rw [List.take_length] at *
      have HL2 : Hid (slotsF l 0 = L) := HL
      generalize slotsF l 0 = A at *
      go_wp2_with fail
      go_ret
      exact ⟨_, rfl, by rw [← HL2.out]; exact hrow, hb⟩

end Go.Proofs.Ytfgblmbocchddaa

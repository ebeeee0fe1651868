/- The calls of both heaps, side by side; a step beside them. -/
import Derived.Test.YtjmdenlocmleiaaGreatPAll
import Derived.Test.YtjmdenlocmleiaaGreatHAll
import Derived.Deep.Slices
import Derived.Deep.Strs
import Derived.Lib.SmallJoins
import Derived.ProofKit
import Derived.OpenShut
import Derived.ShutString

section
namespace Go.Proofs.YtjmdenlocmleiaaGreat
open Go.RowKit

/-- The document's page: its box, its row of slots. -/
structure Pgr (B : Nat) (w : World) (qb : Nat) (v : Value) (l : List Sl) : Prop where
  box : w.heap[qb]? = some (.cells #[v] 70 (0, 0))
  row : Rw 122 rf w B v l
  qB : B ≤ qb
  ne : v.ownBlock ≠ some qb
def footP (qb : Nat) (v : Value) (k : Nat) : Prop := k = qb ∨ v.ownBlock = some k

/-- What a call makes of it. -/
def PgTo (B : Nat) (w : World) (qb : Nat) (v : Value) (l' : List Sl) (w' : World) : Prop :=
  ∃ v', Pgr B w' qb v' l' ∧ Fr (footP qb v) w w' ∧ ∀ k, v'.ownBlock = some k → v.ownBlock = some k ∨ w.heap.size ≤ k

section
variable {B : Nat} {w w' : World} {qb : Nat} {v : Value} {l : List Sl}
theorem Pgr.qlt (h : Pgr B w qb v l) : qb < w.heap.size := (Array.getElem?_eq_some_iff.1 h.box).1
theorem Pgr.lt (h : Pgr B w qb v l) : ∀ k, footP qb v k → B ≤ k ∧ k < w.heap.size := by
  rintro k (rfl | r)
  · exact ⟨h.qB, h.qlt⟩
  · exact h.row.blk r
theorem Pgr.kept (h : Pgr B w qb v l) (hk : ∀ k, footP qb v k → w'.heap[k]? = w.heap[k]?) : Pgr B w' qb v l :=
  ⟨(hk qb (Or.inl rfl)).trans h.box, h.row.kept (fun k e => hk k (Or.inr e)), h.qB, h.ne⟩
theorem Pgr.below (h : Pgr B w qb v l) (hb : Below w.heap.size w w') : Pgr B w' qb v l := h.kept (fun k r => hb.block k (h.lt k r).2)
theorem Pgr.cell (h : Pgr B w qb v l) : w.cell? ⟨qb, 0, none⟩ = some v ∧ w.frozen? ⟨qb, 0, none⟩ = false :=
  ⟨by simp [World.cell?, h.box], frozen_of_row w qb 0 _ _ h.box⟩
theorem Pgr.mono {B' : Nat} (h : Pgr B w qb v l) (hB : B' ≤ B) : Pgr B' w qb v l := ⟨h.box, h.row.mono hB, Nat.le_trans hB h.qB, h.ne⟩
theorem PgTo.same (h : Pgr B w qb v l) : PgTo B w qb v l w := ⟨v, h, Fr.refl _ _, fun _ e => Or.inl e⟩
/-- The box, written anew. -/
theorem Pgr.put {v' : Value} {l' : List Sl} (h : Pgr B w qb v l) (r : Rw 122 rf w B v' l') (hn : v'.ownBlock ≠ some qb) : Pgr B (w.setCell ⟨qb, 0, none⟩ v') qb v' l' := by
  refine ⟨?_, r.kept (fun k e => Below.heap_setCell _ _ _ _ (fun (q : k = qb) => hn (by rw [e, q]))), h.qB, hn⟩
  have := heap_setCell_same w qb 0 #[v] _ v' h.box
  exact this
/-- The slots, written anew in their place. -/
theorem Pgr.over {l' : List Sl} (h : Pgr B w qb v l) (r : Rw 122 rf w' B v l') (f : Fr (fun k => v.ownBlock = some k) w w') : Pgr B w' qb v l' :=
  ⟨(f.block qb h.qlt h.ne).trans h.box, r, h.qB, h.ne⟩
end

set_option maxHeartbeats 800000 in
set_option maxRecDepth 100000 in
theorem rfirst_any {B : Nat} {w : World} {qb : Nat} {v : Value} {l : List Sl} (h : Pgr B w qb v l) (hl : l.length ≤ 1000) (F : Nat) (HF : Hid (first l = F)) :
    Calls Tryz.prog 76 #[.pointer (some ⟨qb, 0, none⟩)] w fun e w' => e = .returned (.int .i64 (F : Int)) ∧ w' = w := by
  obtain ⟨hc, _⟩ := h.cell
  obtain ⟨a, c, hv, hlc, _⟩ := h.row.len
  subst hv
  have hfl := first_le l
  have HFl : Hid (first l ≤ l.length) := hfl
  clear hfl
  go_enter Tryz.func76, Tryz.ntmps76
  go_wp2_with fail
  go_loop [3] (fun si => ∃ k : Nat, k ≤ F ∧ si = .int .i64 (k : Int)) (fun si => l.length - (intOf si).toNat)
  case atStart => exact ⟨0, Nat.zero_le _, rfl⟩
  case round =>
    obtain ⟨k, hk, rfl⟩ := hrel
    by_cases hlt : k < l.length
    · have hlt2 : (k : Int) < (l.length : Int) := by omega
      by_cases hf : k < F
      · obtain ⟨r, hx⟩ := first_lt l k (by rw [HF.out]; exact hf)
        obtain ⟨b, c', e, _, _, _, _, _, c1, _⟩ := h.row.cell hx
        cases e
        have c1' : w.cell? ⟨b, k * 2 + 1, none⟩ = some (.bool true) := c1
        clear c1
        go_wp2_with fail
        go_round
        case rel => exact ⟨k + 1, by omega, by go_num⟩
        case measure => simp [intOf]; omega
      · obtain rfl : k = F := by omega
        have hx := first_none l (by rw [HF.out]; exact hlt)
        rw [HF.out] at hx
        obtain ⟨b, c', e, _, _, _, _, _, c1, _⟩ := h.row.cell hx
        cases e
        have c1' : w.cell? ⟨b, k * 2 + 1, none⟩ = some (.bool false) := c1
        clear c1
        go_wp2_with fail
        go_ret
        exact ⟨rfl, rfl⟩
    · have hlt2 : ¬ (k : Int) < (l.length : Int) := by omega
      have HE : Hid (l.length = F) := by have h1 := HFl.out; rw [HF.out] at h1; show _ = _; omega
      go_wp2_with fail
      go_ret
      exact ⟨by rw [← HE.out]; rfl, rfl⟩

set_option maxHeartbeats 800000 in
set_option maxRecDepth 100000 in
theorem rsize_any {B : Nat} {w : World} {qb : Nat} {v : Value} {l : List Sl} (h : Pgr B w qb v l) (hl : l.length ≤ 1000) (hr : ∀ r, some r ∈ l → r.size ≤ 400) (R : Int) (HR : Hid (4 + 4 * (l.length : Int) + (tot l : Int) = R)) :
    Calls Tryz.prog 77 #[.pointer (some ⟨qb, 0, none⟩)] w fun e w' => e = .returned (.int .i64 R) ∧ w' = w := by
  obtain ⟨hc, _⟩ := h.cell
  obtain ⟨a, c, hv, hlc, _⟩ := h.row.len
  subst hv
  go_enter Tryz.func77, Tryz.ntmps77
  go_wp2_with fail
  go_loop [3, 4] (fun sn si => ∃ k : Nat, k ≤ l.length ∧ si = .int .i64 (k : Int) ∧ sn = .int .i64 (4 + 4 * (l.length : Int) + (tot (l.take k) : Int)) ∧ tot (l.take k) ≤ 400 * k) (fun _ si => l.length - (intOf si).toNat)
  case atStart => exact ⟨0, Nat.zero_le _, rfl, by simp [tot], by simp [tot]⟩
  case round =>
    obtain ⟨k, hk, rfl, rfl, ht⟩ := hrel
    by_cases hlt : k < l.length
    · have hlt2 : (k : Int) < (l.length : Int) := by omega
      have hx : l[k]? = some l[k] := by simp [hlt]
      generalize l[k] = s at hx
      obtain ⟨b, c', e, _, _, _, _, c0, _⟩ := h.row.cell hx
      cases e
      have hmem := List.mem_of_getElem? hx
      have hts : tot (l.take (k + 1)) = tot (l.take k) + (rowOf s).size := by rw [take_snoc l k s hx, tot_append]; simp [tot]
      have hs : (rowOf s).size ≤ 400 := by
        cases s with
        | none => exact Nat.zero_le _
        | some r => exact hr r hmem
      have c0' : w.cell? ⟨b, k * 2, none⟩ = some (.string (rowOf s)) := c0
      clear c0
      generalize rowOf s = rw0 at *
      generalize tot (l.take k) = t at *
      go_wp2_with fail
      go_round
      case rel => exact ⟨k + 1, by omega, by go_num, by rw [hts]; go_num, by omega⟩
      case measure => simp [intOf]; omega
    · obtain rfl : k = l.length := by omega
      rw [List.take_length] at *
      have e : 4 + 4 * (l.length : Int) + (tot l : Int) = R := HR.out
      go_wp2_with fail
      go_ret
      exact ⟨by rw [← e]; rfl, rfl⟩

set_option maxHeartbeats 1600000 in
set_option maxRecDepth 100000 in
theorem rhas_any {B : Nat} {w : World} {qb : Nat} {v : Value} {l : List Sl} (h : Pgr B w qb v l) (_hl : l.length ≤ 1000) (k : Int) (hk : i64ok k) (b : Bool) (HB : Hid ((rowAt l k).isSome = b)) :
    Calls Tryz.prog 82 #[.pointer (some ⟨qb, 0, none⟩), .int .i64 k] w fun e w' => e = .returned (.bool b) ∧ w' = w := by
  obtain ⟨hc, _⟩ := h.cell
  obtain ⟨a, c, hv, hlc, _⟩ := h.row.len
  subst hv
  obtain ⟨hk0, hk1⟩ := hk
  by_cases h0 : 0 ≤ k
  · obtain ⟨i, rfl⟩ : ∃ i : Nat, k = (i : Int) := ⟨k.toNat, by omega⟩
    by_cases h1 : i < l.length
    · have hx : l[i]? = some l[i] := by simp [h1]
      generalize l[i] = s at hx
      obtain ⟨b', c', e, _, _, _, _, _, c1, _⟩ := h.row.cell hx
      cases e
      obtain rfl : s.isSome = b := by
        have := HB.out
        unfold rowAt at this
        rw [if_pos (by omega), Int.toNat_natCast, hx] at this
        exact this
      have c1' : w.cell? ⟨b', i * 2 + 1, none⟩ = some (.bool s.isSome) := c1
      have hi : (i : Int) < (l.length : Int) := by omega
      clear c1 HB
      generalize s.isSome = q at *
      go_enter Tryz.func82, Tryz.ntmps82
      go_wp2_with fail
      go_ret
      exact ⟨rfl, rfl⟩
    · have hi : ¬ (i : Int) < (l.length : Int) := by omega
      obtain rfl : b = false := by
        have := HB.out
        unfold rowAt at this
        rw [if_pos (by omega), Int.toNat_natCast, List.getElem?_eq_none (by omega)] at this
        exact this.symm
      go_enter Tryz.func82, Tryz.ntmps82
      go_wp2_with fail
      go_ret
      exact ⟨rfl, rfl⟩
  · have h02 : ¬ (0 : Int) ≤ k := h0
    obtain rfl : b = false := by
      have := HB.out
      unfold rowAt at this
      rw [if_neg h0] at this
      exact this.symm
    go_enter Tryz.func82, Tryz.ntmps82
    go_wp2_with fail
    go_ret
    exact ⟨rfl, rfl⟩

set_option maxHeartbeats 1600000 in
set_option maxRecDepth 100000 in
theorem rget_any {B : Nat} {w : World} {qb : Nat} {v : Value} {l : List Sl} (h : Pgr B w qb v l) (hl : l.length ≤ 1000) (k : Int) (hk : i64ok k) :
    Calls Tryz.prog 56 #[.pointer (some ⟨qb, 0, none⟩), .int .i64 k] w fun e w' => e = .returned (.tuple #[.string (rowOf (rowAt l k)), .int .i64 (delE l k)]) ∧ w' = w := by
  obtain ⟨hc, _⟩ := h.cell
  cases hr : rowAt l k with
  | none =>
    have hE : delE l k = 60 := by unfold delE; rw [hr]
    rw [hE]
    have cH := rhas_any h hl k hk false (by rw [hr]; exact rfl)
    clear hE hr
    go_enter Tryz.func56, Tryz.ntmps56
    go_wp2_with fail
    refine cH.mono ?_
    rintro e w1 ⟨rfl, rfl⟩
    go_wp2_with fail
    go_ret2
    exact ⟨rfl, rfl⟩
  | some r =>
    have hE : delE l k = 0 := by unfold delE; rw [hr]
    rw [hE]
    have cH := rhas_any h hl k hk true (by rw [hr]; exact rfl)
    obtain ⟨h0, hx⟩ := rowAt_some hr
    obtain ⟨i, rfl⟩ : ∃ i : Nat, k = (i : Int) := ⟨k.toNat, by omega⟩
    rw [Int.toNat_natCast] at hx
    have h1 : i < l.length := (List.getElem?_eq_some_iff.1 hx).1
    obtain ⟨b', c', e, _, _, _, _, c0, _⟩ := h.row.cell hx
    subst e
    have c0' : w.cell? ⟨b', i * 2, none⟩ = some (.string r) := c0
    clear hE hr c0
    go_enter Tryz.func56, Tryz.ntmps56
    go_wp2_with fail
    refine cH.mono ?_
    rintro e w1 ⟨rfl, e1⟩
    rw [e1]
    go_wp2_with fail
    go_ret2
    exact ⟨rfl, rfl⟩

set_option maxHeartbeats 1600000 in
set_option maxRecDepth 100000 in
theorem rslots_any {B : Nat} {w : World} {qb : Nat} {v : Value} {l : List Sl} (h : Pgr B w qb v l) (hl : l.length ≤ 1000) (L : List Int) (HL : Hid (slotsF l 0 = L)) :
    Calls Tryz.prog 51 #[.pointer (some ⟨qb, 0, none⟩)] w fun e w' => ∃ v, e = .returned v ∧ IRow w' w.heap.size v L ∧ Below w.heap.size w w' := by
  obtain ⟨hc, _⟩ := h.cell
  have hq := h.qlt
  obtain ⟨sa, sc, hv, hlc, _⟩ := h.row.len
  subst hv
  go_enter Tryz.func51, Tryz.ntmps51
  go_wp2_with fail
  go_loopw [3, 4] (fun st si wr => ∃ k : Nat, k ≤ l.length ∧ si = .int .i64 (k : Int) ∧ IRow wr w.heap.size st (slotsF (l.take k) 0) ∧ Below w.heap.size w wr) (fun _ si _ => l.length - (intOf si).toNat)
  case atStart => exact ⟨0, Nat.zero_le _, rfl, irow_nil _ _, Below.refl _ _⟩
  case round =>
    obtain ⟨k, hk, rfl, hrow, hb⟩ := hrel
    obtain ⟨ta, tc, rfl, htc, _⟩ := hrow.len
    have hc' : wr.cell? ⟨qb, 0, none⟩ = some (.slice sa l.length sc) := (hb.cell (p := ⟨qb, 0, none⟩) hq).trans hc
    by_cases hlt : k < l.length
    · have hlt2 : (k : Int) < (l.length : Int) := by omega
      have hx : l[k]? = some l[k] := by simp [hlt]
      generalize l[k] = s at hx
      have hsl := slotsF_len (l.take k) 0
      rw [List.length_take] at hsl
      have hst := slots_step l k s hx
      obtain ⟨b, c', e, _, _, _, hbl, c0, c1, _⟩ := h.row.cell hx
      cases e
      generalize slotsF (l.take k) 0 = A at *
      cases s with
      | none =>
        have d1 : wr.cell? ⟨b, k * 2 + 1, none⟩ = some (.bool false) := (hb.cell (p := ⟨b, k * 2 + 1, none⟩) hbl).trans c1
        have HS : Hid (slotsF (l.take (k + 1)) 0 = A) := by show _ = _; rw [hst]; simp
        clear c0 c1 hst
        go_wp2_with fail
        go_roundw
        case rel => exact ⟨k + 1, by omega, by go_num, by rw [HS.out]; exact hrow, hb⟩
        case measure => simp [intOf]; omega
      | some r =>
        have d1 : wr.cell? ⟨b, k * 2 + 1, none⟩ = some (.bool true) := (hb.cell (p := ⟨b, k * 2 + 1, none⟩) hbl).trans c1
        have HS : Hid (slotsF (l.take (k + 1)) 0 = A ++ [(k : Int)]) := by show _ = _; rw [hst]
        have hb2 := below2 hb (below_alloc1 wr (.cells #[.int .i64 (k : Int)] 3))
        have hr2 := hrow.below' (below_alloc1 wr (.cells #[.int .i64 (k : Int)] 3))
        clear c0 c1 hst
        go_wp2_with (at_builtin; refine wpList_append_int _ rfl _ _ rfl w.heap.size _ A [(k : Int)] rfl hr2 ⟨wr.heap.size, 0, none⟩ 1 (by simp; rfl) (one_src _ _ (by simp)) (by simp; omega) hb2.size ?_; intro v' w' hrow' hfr hnew)
        go_roundw
        case rel => exact ⟨k + 1, by omega, by go_num, by rw [HS.out]; exact hrow', hfr.below hb2 hb2.size (fun k e => (hrow.blk e).1)⟩
        case measure => simp [intOf]; omega
    · obtain rfl : k = l.length := by omega
      rw [List.take_length] at *
      have HL2 : Hid (slotsF l 0 = L) := HL
      generalize slotsF l 0 = A at *
      go_wp2_with fail
      go_ret
      exact ⟨_, rfl, by rw [← HL2.out]; exact hrow, hb⟩

end Go.Proofs.YtjmdenlocmleiaaGreat
end

section
namespace Go.Proofs.YtjmdenlocmleiaaGreat
open Go.RowKit

set_option maxHeartbeats 3200000 in
set_option maxRecDepth 100000 in
theorem rput_any {B : Nat} {w : World} {qb : Nat} {v : Value} {l : List Sl} (h : Pgr B w qb v l) (hF : Fine l) (k : Int) (hk : i64ok k) (row : ByteArray) (hrs : row.size ≤ 1000000) (E : Int) (HE : Hid (putE l k row = E)) :
    Calls Tryz.prog 40 #[.pointer (some ⟨qb, 0, none⟩), .int .i64 k, .string row] w fun e w' => e = .returned (.int .i64 E) ∧ PgTo B w qb v (putN l k row) w' := by
  have hl : l.length ≤ 127 := few hF.room
  obtain ⟨hc0, _⟩ := h.cell
  cases hr : rowAt l k with
  | none =>
    obtain rfl : E = 60 := by rw [← HE.out]; unfold putE; rw [hr]
    have hN : putN l k row = l := by unfold putN; rw [HE.out]; rfl
    have cH := rhas_any h (by omega) k hk false (by rw [hr]; exact rfl)
    have hP := PgTo.same h
    rw [hN]
    clear hr hN
    go_enter Tryz.func40, Tryz.ntmps40
    go_wp2_with fail
    refine cH.mono ?_
    rintro e w1 ⟨rfl, e1⟩
    rw [e1]
    go_wp2_with fail
    go_ret
    exact ⟨rfl, hP⟩
  | some r =>
    have cH := rhas_any h (by omega) k hk true (by rw [hr]; exact rfl)
    obtain ⟨h0, hx⟩ := rowAt_some hr
    obtain ⟨i, rfl⟩ : ∃ i : Nat, k = (i : Int) := ⟨k.toNat, by omega⟩
    rw [Int.toNat_natCast] at hx
    have h1 : i < l.length := (List.getElem?_eq_some_iff.1 hx).1
    have hr4 : r.size ≤ 400 := hF.rows r (List.mem_of_getElem? hx)
    by_cases h4 : 400 < row.size
    · have h42 : (400 : Int) < (row.size : Int) := by omega
      obtain rfl : E = 2 := by rw [← HE.out]; unfold putE; simp only [hr]; rw [if_pos h4]
      have hN : putN l (i : Int) row = l := by unfold putN; rw [HE.out]; rfl
      have hP := PgTo.same h
      rw [hN]
      clear hr hN HE
      go_enter Tryz.func40, Tryz.ntmps40
      go_wp2_with fail
      refine cH.mono ?_
      rintro e w1 ⟨rfl, e1⟩
      rw [e1]
      go_wp2_with fail
      go_ret
      exact ⟨rfl, hP⟩
    · have h42 : ¬ (400 : Int) < (row.size : Int) := by omega
      obtain ⟨T, hT⟩ : ∃ T : Int, 4 + 4 * (l.length : Int) + (tot l : Int) = T := ⟨_, rfl⟩
      have hd : Pgr B w.drew qb v l := h.kept (fun _ _ => rfl)
      have cS := rsize_any hd (by omega) hF.rows T hT
      have hTb : 0 ≤ T ∧ T ≤ 512 := by have := hF.room; unfold room at this; omega
      obtain ⟨T1, hT1⟩ : ∃ T1 : Int, T - (r.size : Int) = T1 := ⟨_, rfl⟩
      obtain ⟨T2, hT2⟩ : ∃ T2 : Int, T1 + (row.size : Int) = T2 := ⟨_, rfl⟩
      have hw1 : IntKind.i64.wrap T1 = T1 := by rw [IntKind.wrap_i64]; omega
      have hw2 : IntKind.i64.wrap T2 = T2 := by rw [IntKind.wrap_i64]; omega
      have hrow := h.row
      have hfr : ∀ b c, v = .slice (some ⟨b, 0, none⟩) l.length c → w.drew.cell? ⟨qb, 0, none⟩ = some (.slice (some ⟨b, 0, none⟩) l.length c) := by intro b c e; rw [← e]; exact hc0
      by_cases h5 : 512 < T2
      · obtain rfl : E = 50 := by
          rw [← HE.out]
          unfold putE
          simp only [hr]
          rw [if_neg h4, if_pos (by unfold room; omega)]
        have hN : putN l (i : Int) row = l := by unfold putN; rw [HE.out]; rfl
        have hP : PgTo B w qb v l w.drew := ⟨v, hd, (Fr.refl _ _).drew, fun _ e => Or.inl e⟩
        rw [hN]
        obtain ⟨b, c, e, hlc, _, _, _, c0, c1, _⟩ := hrow.cell hx
        have hc := hfr b c e
        subst e
        have c0' : w.drew.cell? ⟨b, i * 2, none⟩ = some (.string r) := c0
        clear hr hN HE hT hfr c0 hrow
        go_enter Tryz.func40, Tryz.ntmps40
        go_wp2_with fail
        refine cH.mono ?_
        rintro e w1 ⟨rfl, e1⟩
        rw [e1]
        clear e1 cH
        go_wp2_with fail
        refine wp_region_held_drew (S := (fun W => W.cell? ⟨qb, 0, none⟩ = some (.slice (some ⟨b, 0, none⟩) l.length c) ∧ W.cell? ⟨b, i * 2, none⟩ = some (.string r))) (by kernel_rfl) (⟨hc, c0'⟩) (fun hHeld => ?_)
        refine takeD 0 14 (v := .pointer (some ⟨qb, 0, none⟩)) rfl rfl (by kernel_rfl) (by kernel_rfl) (by kernel_rfl) (fun _ _ _ h => h) (Or.inl ⟨by rfl, by (intro w hSw; (try dsimp only at hSw); go_simp)⟩) hHeld ?_
        simp only [List.setIfInBounds_toArray, List.set_cons_zero, List.set_cons_succ]
        refine takeD 2 16 (v := .pointer (some ⟨qb, 0, none⟩)) rfl rfl (by kernel_rfl) (by kernel_rfl) (by kernel_rfl) (fun _ _ _ h => h) (Or.inl ⟨by rfl, by (intro w hSw; (try dsimp only at hSw); go_simp)⟩) hHeld ?_
        simp only [List.setIfInBounds_toArray, List.set_cons_zero, List.set_cons_succ]
        refine takeD 3 17 (v := .pointer (some ⟨qb, 0, none⟩)) rfl rfl (by kernel_rfl) (by kernel_rfl) (by kernel_rfl) (fun _ _ _ h => h) (Or.inl ⟨by rfl, by (intro w hSw; (try dsimp only at hSw); go_simp)⟩) hHeld ?_
        simp only [List.setIfInBounds_toArray, List.set_cons_zero, List.set_cons_succ]
        refine takeD 4 18 (v := .pointer (some ⟨qb, 0, none⟩)) rfl rfl (by kernel_rfl) (by kernel_rfl) (by kernel_rfl) (fun _ _ _ h => h) (Or.inl ⟨by rfl, by (intro w hSw; (try dsimp only at hSw); go_simp)⟩) hHeld ?_
        simp only [List.setIfInBounds_toArray, List.set_cons_zero, List.set_cons_succ]
        refine takeD 5 19 (v := (.slice (some ⟨b, 0, none⟩) l.length c)) rfl rfl (by kernel_rfl) (by kernel_rfl) (by kernel_rfl) (fun _ _ _ h => h) (Or.inl ⟨by rfl, by (intro w hSw; (try dsimp only at hSw); go_simp)⟩) hHeld ?_
        simp only [List.setIfInBounds_toArray, List.set_cons_zero, List.set_cons_succ]
        refine takeD 6 20 (v := .int .i64 (i : Int)) rfl rfl (by kernel_rfl) (by kernel_rfl) (by kernel_rfl) (fun _ _ _ h => h) (Or.inl ⟨by rfl, by (intro w hSw; (try dsimp only at hSw); go_simp)⟩) hHeld ?_
        simp only [List.setIfInBounds_toArray, List.set_cons_zero, List.set_cons_succ]
        refine takeD 7 21 (v := .pointer (some ⟨b, i * 2, none⟩)) rfl rfl (by kernel_rfl) (by kernel_rfl) (by kernel_rfl) (fun _ _ _ h => h) (Or.inl ⟨by rfl, by (intro w hSw; (try dsimp only at hSw); go_simp)⟩) hHeld ?_
        simp only [List.setIfInBounds_toArray, List.set_cons_zero, List.set_cons_succ]
        refine takeD 8 22 (v := .pointer (some ⟨b, i * 2, none⟩)) rfl rfl (by kernel_rfl) (by kernel_rfl) (by kernel_rfl) (fun _ _ _ h => h) (Or.inl ⟨by rfl, by (intro w hSw; (try dsimp only at hSw); go_simp)⟩) hHeld ?_
        simp only [List.setIfInBounds_toArray, List.set_cons_zero, List.set_cons_succ]
        refine takeD 9 23 (v := .string r) rfl rfl (by kernel_rfl) (by kernel_rfl) (by kernel_rfl) (fun _ _ _ h => h) (Or.inl ⟨by rfl, by (intro w hSw; (try dsimp only at hSw); go_simp)⟩) hHeld ?_
        simp only [List.setIfInBounds_toArray, List.set_cons_zero, List.set_cons_succ]
        refine takeD 10 24 (v := .int .i64 (r.size : Int)) rfl rfl (by kernel_rfl) (by kernel_rfl) (by kernel_rfl) (fun _ _ _ h => h) (Or.inl ⟨by rfl, by (intro w hSw; (try dsimp only at hSw); go_simp)⟩) hHeld ?_
        simp only [List.setIfInBounds_toArray, List.set_cons_zero, List.set_cons_succ]
        refine takeD 12 26 (v := .string row) rfl rfl (by kernel_rfl) (by kernel_rfl) (by kernel_rfl) (fun _ _ _ h => h) (Or.inl ⟨by rfl, by (intro w hSw; (try dsimp only at hSw); go_simp)⟩) hHeld ?_
        simp only [List.setIfInBounds_toArray, List.set_cons_zero, List.set_cons_succ]
        refine takeD 13 27 (v := .int .i64 (row.size : Int)) rfl rfl (by kernel_rfl) (by kernel_rfl) (by kernel_rfl) (fun _ _ _ h => h) (Or.inl ⟨by rfl, by (intro w hSw; (try dsimp only at hSw); go_simp)⟩) hHeld ?_
        simp only [List.setIfInBounds_toArray, List.set_cons_zero, List.set_cons_succ]
        refine wpAnyH_ready (rs := [1]) (by kernel_rfl) (by simp) ?_
        refine AllReadyH.cons rfl (fun K hK => ?_) AllReadyH.nil
        go_simp
        refine (cS).mono ?_
        rintro e w2 ⟨rfl, e2⟩
        subst e2
        go_simp
        refine hK.out _ _ (hHeld) (fun hHeld => ?_)
        clear hK K
        refine takeD 11 25 (v := .int .i64 T1) rfl rfl (by kernel_rfl) (by kernel_rfl) (by kernel_rfl) (fun _ _ _ h => h) (Or.inl ⟨by rfl, by (intro w hSw; (try dsimp only at hSw); go_simp)⟩) hHeld ?_
        simp only [List.setIfInBounds_toArray, List.set_cons_zero, List.set_cons_succ]
        refine takeD 14 28 (v := .int .i64 T2) rfl rfl (by kernel_rfl) (by kernel_rfl) (by kernel_rfl) (fun _ _ _ h => h) (Or.inl ⟨by rfl, by (intro w hSw; (try dsimp only at hSw); go_simp)⟩) hHeld ?_
        simp only [List.setIfInBounds_toArray, List.set_cons_zero, List.set_cons_succ]
        refine takeD 15 29 (v := .bool true) rfl rfl (by kernel_rfl) (by kernel_rfl) (by kernel_rfl) (fun _ _ _ h => h) (Or.inl ⟨by rfl, by (intro w hSw; (try dsimp only at hSw); go_simp)⟩) hHeld ?_
        simp only [List.setIfInBounds_toArray, List.set_cons_zero, List.set_cons_succ]
        refine wpAnyH_done (by kernel_rfl) ?_ _
        go_wp2_with fail
        go_ret
        exact ⟨rfl, hP⟩
      · obtain rfl : E = 0 := by
          rw [← HE.out]
          unfold putE
          simp only [hr]
          rw [if_neg h4, if_neg (by unfold room; omega)]
        have hN : putN l (i : Int) row = l.set i (some row) := by unfold putN; rw [HE.out, if_pos rfl]; rfl
        rw [hN]
        obtain ⟨b, c, e, hlc, _, hB, hbl, c0, c1, f0, f1⟩ := hrow.cell hx
        have hc := hfr b c e
        subst e
        have c0' : w.drew.cell? ⟨b, i * 2, none⟩ = some (.string r) := c0
        have f0' : w.drew.frozen? ⟨b, i * 2, none⟩ = false := f0
        have hrw := hd.row.setA (s := some row) hx rfl
        have f : Fr (fun k => (Value.slice (some ⟨b, 0, none⟩) l.length c).ownBlock = some k) w.drew (w.drew.setCell ⟨b, i * 2, none⟩ (.string row)) := Fr.set (F := fun k => (Value.slice (some ⟨b, 0, none⟩) l.length c).ownBlock = some k) (Fr.refl _ _) (p := ⟨b, i * 2, none⟩) (Or.inl rfl) _
        have hP : PgTo B w qb (.slice (some ⟨b, 0, none⟩) l.length c) (l.set i (some row)) (w.drew.setCell ⟨b, i * 2, none⟩ (.string row)) :=
          ⟨_, hd.over hrw f, Fr.set (F := footP qb (.slice (some ⟨b, 0, none⟩) l.length c)) (Fr.refl _ w).drew (p := ⟨b, i * 2, none⟩) (Or.inl (Or.inr rfl)) _, fun _ e => Or.inl e⟩
        clear hr hN HE hT hfr c0 f0 hrow hrw f
        go_enter Tryz.func40, Tryz.ntmps40
        go_wp2_with fail
        refine cH.mono ?_
        rintro e w1 ⟨rfl, e1⟩
        rw [e1]
        clear e1 cH
        go_wp2_with fail
        refine wp_region_held_drew (S := (fun W => W.cell? ⟨qb, 0, none⟩ = some (.slice (some ⟨b, 0, none⟩) l.length c) ∧ W.cell? ⟨b, i * 2, none⟩ = some (.string r))) (by kernel_rfl) (⟨hc, c0'⟩) (fun hHeld => ?_)
        refine takeD 0 14 (v := .pointer (some ⟨qb, 0, none⟩)) rfl rfl (by kernel_rfl) (by kernel_rfl) (by kernel_rfl) (fun _ _ _ h => h) (Or.inl ⟨by rfl, by (intro w hSw; (try dsimp only at hSw); go_simp)⟩) hHeld ?_
        simp only [List.setIfInBounds_toArray, List.set_cons_zero, List.set_cons_succ]
        refine takeD 2 16 (v := .pointer (some ⟨qb, 0, none⟩)) rfl rfl (by kernel_rfl) (by kernel_rfl) (by kernel_rfl) (fun _ _ _ h => h) (Or.inl ⟨by rfl, by (intro w hSw; (try dsimp only at hSw); go_simp)⟩) hHeld ?_
        simp only [List.setIfInBounds_toArray, List.set_cons_zero, List.set_cons_succ]
        refine takeD 3 17 (v := .pointer (some ⟨qb, 0, none⟩)) rfl rfl (by kernel_rfl) (by kernel_rfl) (by kernel_rfl) (fun _ _ _ h => h) (Or.inl ⟨by rfl, by (intro w hSw; (try dsimp only at hSw); go_simp)⟩) hHeld ?_
        simp only [List.setIfInBounds_toArray, List.set_cons_zero, List.set_cons_succ]
        refine takeD 4 18 (v := .pointer (some ⟨qb, 0, none⟩)) rfl rfl (by kernel_rfl) (by kernel_rfl) (by kernel_rfl) (fun _ _ _ h => h) (Or.inl ⟨by rfl, by (intro w hSw; (try dsimp only at hSw); go_simp)⟩) hHeld ?_
        simp only [List.setIfInBounds_toArray, List.set_cons_zero, List.set_cons_succ]
        refine takeD 5 19 (v := (.slice (some ⟨b, 0, none⟩) l.length c)) rfl rfl (by kernel_rfl) (by kernel_rfl) (by kernel_rfl) (fun _ _ _ h => h) (Or.inl ⟨by rfl, by (intro w hSw; (try dsimp only at hSw); go_simp)⟩) hHeld ?_
        simp only [List.setIfInBounds_toArray, List.set_cons_zero, List.set_cons_succ]
        refine takeD 6 20 (v := .int .i64 (i : Int)) rfl rfl (by kernel_rfl) (by kernel_rfl) (by kernel_rfl) (fun _ _ _ h => h) (Or.inl ⟨by rfl, by (intro w hSw; (try dsimp only at hSw); go_simp)⟩) hHeld ?_
        simp only [List.setIfInBounds_toArray, List.set_cons_zero, List.set_cons_succ]
        refine takeD 7 21 (v := .pointer (some ⟨b, i * 2, none⟩)) rfl rfl (by kernel_rfl) (by kernel_rfl) (by kernel_rfl) (fun _ _ _ h => h) (Or.inl ⟨by rfl, by (intro w hSw; (try dsimp only at hSw); go_simp)⟩) hHeld ?_
        simp only [List.setIfInBounds_toArray, List.set_cons_zero, List.set_cons_succ]
        refine takeD 8 22 (v := .pointer (some ⟨b, i * 2, none⟩)) rfl rfl (by kernel_rfl) (by kernel_rfl) (by kernel_rfl) (fun _ _ _ h => h) (Or.inl ⟨by rfl, by (intro w hSw; (try dsimp only at hSw); go_simp)⟩) hHeld ?_
        simp only [List.setIfInBounds_toArray, List.set_cons_zero, List.set_cons_succ]
        refine takeD 9 23 (v := .string r) rfl rfl (by kernel_rfl) (by kernel_rfl) (by kernel_rfl) (fun _ _ _ h => h) (Or.inl ⟨by rfl, by (intro w hSw; (try dsimp only at hSw); go_simp)⟩) hHeld ?_
        simp only [List.setIfInBounds_toArray, List.set_cons_zero, List.set_cons_succ]
        refine takeD 10 24 (v := .int .i64 (r.size : Int)) rfl rfl (by kernel_rfl) (by kernel_rfl) (by kernel_rfl) (fun _ _ _ h => h) (Or.inl ⟨by rfl, by (intro w hSw; (try dsimp only at hSw); go_simp)⟩) hHeld ?_
        simp only [List.setIfInBounds_toArray, List.set_cons_zero, List.set_cons_succ]
        refine takeD 12 26 (v := .string row) rfl rfl (by kernel_rfl) (by kernel_rfl) (by kernel_rfl) (fun _ _ _ h => h) (Or.inl ⟨by rfl, by (intro w hSw; (try dsimp only at hSw); go_simp)⟩) hHeld ?_
        simp only [List.setIfInBounds_toArray, List.set_cons_zero, List.set_cons_succ]
        refine takeD 13 27 (v := .int .i64 (row.size : Int)) rfl rfl (by kernel_rfl) (by kernel_rfl) (by kernel_rfl) (fun _ _ _ h => h) (Or.inl ⟨by rfl, by (intro w hSw; (try dsimp only at hSw); go_simp)⟩) hHeld ?_
        simp only [List.setIfInBounds_toArray, List.set_cons_zero, List.set_cons_succ]
        refine wpAnyH_ready (rs := [1]) (by kernel_rfl) (by simp) ?_
        refine AllReadyH.cons rfl (fun K hK => ?_) AllReadyH.nil
        go_simp
        refine (cS).mono ?_
        rintro e w2 ⟨rfl, e2⟩
        subst e2
        go_simp
        refine hK.out _ _ (hHeld) (fun hHeld => ?_)
        clear hK K
        refine takeD 11 25 (v := .int .i64 T1) rfl rfl (by kernel_rfl) (by kernel_rfl) (by kernel_rfl) (fun _ _ _ h => h) (Or.inl ⟨by rfl, by (intro w hSw; (try dsimp only at hSw); go_simp)⟩) hHeld ?_
        simp only [List.setIfInBounds_toArray, List.set_cons_zero, List.set_cons_succ]
        refine takeD 14 28 (v := .int .i64 T2) rfl rfl (by kernel_rfl) (by kernel_rfl) (by kernel_rfl) (fun _ _ _ h => h) (Or.inl ⟨by rfl, by (intro w hSw; (try dsimp only at hSw); go_simp)⟩) hHeld ?_
        simp only [List.setIfInBounds_toArray, List.set_cons_zero, List.set_cons_succ]
        refine takeD 15 29 (v := .bool false) rfl rfl (by kernel_rfl) (by kernel_rfl) (by kernel_rfl) (fun _ _ _ h => h) (Or.inl ⟨by rfl, by (intro w hSw; (try dsimp only at hSw); go_simp)⟩) hHeld ?_
        simp only [List.setIfInBounds_toArray, List.set_cons_zero, List.set_cons_succ]
        refine wpAnyH_done (by kernel_rfl) ?_ _
        go_wp2_with fail
        go_ret
        exact ⟨rfl, hP⟩

end Go.Proofs.YtjmdenlocmleiaaGreat
end

section
namespace Go.Proofs.YtjmdenlocmleiaaGreat
open Go.RowKit

theorem Rw.takeN {T : TypeId} {f : Sl → Value × Value} {w : World} {B : Nat} {l : List Sl} {a : Option Addr} {c k n : Nat} (h : Rw T f w B (.slice a n c) l) (hn : l.length = n) (hk : k ≤ n) : Rw T f w B (.slice a k c) (l.take k) := by
  subst hn
  exact h.take hk

set_option maxHeartbeats 6400000 in
set_option maxRecDepth 100000 in
theorem rdel_any {B : Nat} {w : World} {qb : Nat} {v : Value} {l : List Sl} (h : Pgr B w qb v l) (hF : Fine l) (k : Int) (hk : i64ok k) (E : Int) (HE : Hid (delE l k = E)) :
    Calls Tryz.prog 42 #[.pointer (some ⟨qb, 0, none⟩), .int .i64 k] w fun e w' => e = .returned (.int .i64 E) ∧ PgTo B w qb v (delN l k) w' := by
  have hl : l.length ≤ 127 := few hF.room
  obtain ⟨hc0, hcf⟩ := h.cell
  cases hr : rowAt l k with
  | none =>
    obtain rfl : E = 60 := by rw [← HE.out]; unfold delE; rw [hr]
    have hN : delN l k = l := by unfold delN; rw [HE.out]; rfl
    have cH := rhas_any h (by omega) k hk false (by rw [hr]; exact rfl)
    have hP := PgTo.same h
    rw [hN]
    clear hr hN
    go_enter Tryz.func42, Tryz.ntmps42
    go_wp2_with fail
    refine cH.mono ?_
    rintro e w1 ⟨rfl, e1⟩
    rw [e1]
    go_wp2_with fail
    go_ret
    exact ⟨rfl, hP⟩
  | some r =>
    obtain rfl : E = 0 := by rw [← HE.out]; unfold delE; rw [hr]
    have cH := rhas_any h (by omega) k hk true (by rw [hr]; exact rfl)
    obtain ⟨h0, hx⟩ := rowAt_some hr
    obtain ⟨i, rfl⟩ : ∃ i : Nat, k = (i : Int) := ⟨k.toNat, by omega⟩
    rw [Int.toNat_natCast] at hx
    have h1 : i < l.length := (List.getElem?_eq_some_iff.1 hx).1
    have HN : Hid (delN l (i : Int) = trimL (l.set i none)) := by show _ = _; unfold delN; rw [HE.out, if_pos rfl]; rfl
    obtain ⟨b, c, e, hlc, _, hB, hbl, c0, c1, f0, f1⟩ := h.row.cell hx
    subst e
    have c0' : w.cell? ⟨b, i * 2, none⟩ = some (.string r) := c0
    have c1' : w.cell? ⟨b, i * 2 + 1, none⟩ = some (.bool true) := c1
    have hrw := h.row.set2 (i := i) (s := none)
    have fw : Fr (fun k => (Value.slice (some ⟨b, 0, none⟩) l.length c).ownBlock = some k) w ((w.setCell ⟨b, i * 2, none⟩ (.string ⟨#[]⟩)).setCell ⟨b, i * 2 + 1, none⟩ (.bool false)) := Fr.set (F := fun k => (Value.slice (some ⟨b, 0, none⟩) l.length c).ownBlock = some k) (Fr.set (F := fun k => (Value.slice (some ⟨b, 0, none⟩) l.length c).ownBlock = some k) (Fr.refl _ _) (p := ⟨b, i * 2, none⟩) (Or.inl rfl) _) (p := ⟨b, i * 2 + 1, none⟩) (Or.inl rfl) _
    have hg : Pgr B ((w.setCell ⟨b, i * 2, none⟩ (.string ⟨#[]⟩)).setCell ⟨b, i * 2 + 1, none⟩ (.bool false)) qb (.slice (some ⟨b, 0, none⟩) l.length c) (l.set i none) := h.over hrw fw
    have hbq : b ≠ qb := fun e => h.ne (by rw [e]; rfl)
    obtain ⟨m, hm⟩ : ∃ m, m = l.set i none := ⟨_, rfl⟩
    have hml : m.length = l.length := by rw [hm, List.length_set]
    have HM : Hid (m = l.set i none) := hm
    have hFr : Fr (footP qb (.slice (some ⟨b, 0, none⟩) l.length c)) w ((w.setCell ⟨b, i * 2, none⟩ (.string ⟨#[]⟩)).setCell ⟨b, i * 2 + 1, none⟩ (.bool false)) := ⟨fw.os, fw.tape, fw.output, fw.size, fun k hk hf => fw.block k hk (fun e => hf (Or.inr e))⟩
    rw [← hm] at hg
    clear hr HE c0 c1 hrw hm fw
    go_enter Tryz.func42, Tryz.ntmps42
    go_wp2_with fail
    refine cH.mono ?_
    rintro e w1 ⟨rfl, e1⟩
    rw [e1]
    clear e1 cH
    go_wp2_with fail
    go_loopw [] (fun wr => ∃ k : Nat, k ≤ l.length ∧ Pgr B wr qb (.slice (some ⟨b, 0, none⟩) k c) (m.take k) ∧ Hid (trimL (m.take k) = trimL m) ∧ Fr (footP qb (.slice (some ⟨b, 0, none⟩) l.length c)) w wr) (fun wr => match wr.cell? ⟨qb, 0, none⟩ with | some (.slice _ n _) => n | _ => 0)
    case atStart => exact ⟨l.length, Nat.le_refl _, by rw [← hml, List.take_length, hml]; exact hg, by rw [← hml, List.take_length]; exact rfl, hFr⟩
    case round =>
      obtain ⟨k, hk, hp, HT, hf⟩ := hrel
      clear hg hFr
      obtain ⟨qc0, qf0⟩ := hp.cell
      have qc : wr.drew.cell? ⟨qb, 0, none⟩ = some (.slice (some ⟨b, 0, none⟩) k c) := qc0
      have htl : (m.take k).length = k := by rw [List.length_take]; omega
      by_cases hk0 : k = 0
      · subst hk0
        have HE0 : Hid (delN l (i : Int) = m.take 0) := by
          show _ = _
          rw [HN.out, ← HM.out, ← HT.out]
          rfl
        have hd : Pgr B wr.drew qb (.slice (some ⟨b, 0, none⟩) 0 c) (m.take 0) := hp.kept (fun _ _ => rfl)
        have hf2 := hf.drew
        clear htl
        go_wp2_with fail
        refine wp_region_held_drew (S := (fun W => W.cell? ⟨qb, 0, none⟩ = some (.slice (some ⟨b, 0, none⟩) 0 c))) (by kernel_rfl) (qc) (fun hHeld => ?_)
        refine takeD 0 16 (v := .pointer (some ⟨qb, 0, none⟩)) rfl rfl (by kernel_rfl) (by kernel_rfl) (by kernel_rfl) (fun _ _ _ h => h) (Or.inl ⟨by rfl, by (intro w hSw; (try dsimp only at hSw); go_simp)⟩) hHeld ?_
        simp only [List.setIfInBounds_toArray, List.set_cons_zero, List.set_cons_succ]
        refine takeD 1 17 (v := .pointer (some ⟨qb, 0, none⟩)) rfl rfl (by kernel_rfl) (by kernel_rfl) (by kernel_rfl) (fun _ _ _ h => h) (Or.inl ⟨by rfl, by (intro w hSw; (try dsimp only at hSw); go_simp)⟩) hHeld ?_
        simp only [List.setIfInBounds_toArray, List.set_cons_zero, List.set_cons_succ]
        refine takeD 2 18 (v := .pointer (some ⟨qb, 0, none⟩)) rfl rfl (by kernel_rfl) (by kernel_rfl) (by kernel_rfl) (fun _ _ _ h => h) (Or.inl ⟨by rfl, by (intro w hSw; (try dsimp only at hSw); go_simp)⟩) hHeld ?_
        simp only [List.setIfInBounds_toArray, List.set_cons_zero, List.set_cons_succ]
        refine takeD 3 19 (v := (.slice (some ⟨b, 0, none⟩) 0 c)) rfl rfl (by kernel_rfl) (by kernel_rfl) (by kernel_rfl) (fun _ _ _ h => h) (Or.inl ⟨by rfl, by (intro w hSw; (try dsimp only at hSw); go_simp)⟩) hHeld ?_
        simp only [List.setIfInBounds_toArray, List.set_cons_zero, List.set_cons_succ]
        refine takeD 4 20 (v := .int .i64 0) rfl rfl (by kernel_rfl) (by kernel_rfl) (by kernel_rfl) (fun _ _ _ h => h) (Or.inl ⟨by rfl, by (intro w hSw; (try dsimp only at hSw); go_simp)⟩) hHeld ?_
        simp only [List.setIfInBounds_toArray, List.set_cons_zero, List.set_cons_succ]
        refine takeD 5 21 (v := .bool false) rfl rfl (by kernel_rfl) (by kernel_rfl) (by kernel_rfl) (fun _ _ _ h => h) (Or.inl ⟨by rfl, by (intro w hSw; (try dsimp only at hSw); go_simp)⟩) hHeld ?_
        simp only [List.setIfInBounds_toArray, List.set_cons_zero, List.set_cons_succ]
        refine takeD 6 22 (v := .bool false) rfl rfl (by kernel_rfl) (by kernel_rfl) (by kernel_rfl) (fun _ _ _ h => h) (Or.inl ⟨by rfl, by (intro w hSw; (try dsimp only at hSw); go_simp)⟩) hHeld ?_
        simp only [List.setIfInBounds_toArray, List.set_cons_zero, List.set_cons_succ]
        refine takeD 7 23 (v := undef) rfl rfl (by kernel_rfl) (by kernel_rfl) (by kernel_rfl) (fun _ _ _ h => h) (Or.inr ⟨by kernel_rfl, rfl⟩) hHeld ?_
        simp only [List.setIfInBounds_toArray, List.set_cons_zero, List.set_cons_succ]
        refine takeD 8 24 (v := undef) rfl rfl (by kernel_rfl) (by kernel_rfl) (by kernel_rfl) (fun _ _ _ h => h) (Or.inr ⟨by kernel_rfl, rfl⟩) hHeld ?_
        simp only [List.setIfInBounds_toArray, List.set_cons_zero, List.set_cons_succ]
        refine takeD 9 25 (v := undef) rfl rfl (by kernel_rfl) (by kernel_rfl) (by kernel_rfl) (fun _ _ _ h => h) (Or.inr ⟨by kernel_rfl, rfl⟩) hHeld ?_
        simp only [List.setIfInBounds_toArray, List.set_cons_zero, List.set_cons_succ]
        refine takeD 10 26 (v := undef) rfl rfl (by kernel_rfl) (by kernel_rfl) (by kernel_rfl) (fun _ _ _ h => h) (Or.inr ⟨by kernel_rfl, rfl⟩) hHeld ?_
        simp only [List.setIfInBounds_toArray, List.set_cons_zero, List.set_cons_succ]
        refine takeD 11 27 (v := undef) rfl rfl (by kernel_rfl) (by kernel_rfl) (by kernel_rfl) (fun _ _ _ h => h) (Or.inr ⟨by kernel_rfl, rfl⟩) hHeld ?_
        simp only [List.setIfInBounds_toArray, List.set_cons_zero, List.set_cons_succ]
        refine takeD 12 28 (v := undef) rfl rfl (by kernel_rfl) (by kernel_rfl) (by kernel_rfl) (fun _ _ _ h => h) (Or.inr ⟨by kernel_rfl, rfl⟩) hHeld ?_
        simp only [List.setIfInBounds_toArray, List.set_cons_zero, List.set_cons_succ]
        refine takeD 13 29 (v := undef) rfl rfl (by kernel_rfl) (by kernel_rfl) (by kernel_rfl) (fun _ _ _ h => h) (Or.inr ⟨by kernel_rfl, rfl⟩) hHeld ?_
        simp only [List.setIfInBounds_toArray, List.set_cons_zero, List.set_cons_succ]
        refine takeD 14 30 (v := undef) rfl rfl (by kernel_rfl) (by kernel_rfl) (by kernel_rfl) (fun _ _ _ h => h) (Or.inr ⟨by kernel_rfl, rfl⟩) hHeld ?_
        simp only [List.setIfInBounds_toArray, List.set_cons_zero, List.set_cons_succ]
        refine takeD 15 31 (v := undef) rfl rfl (by kernel_rfl) (by kernel_rfl) (by kernel_rfl) (fun _ _ _ h => h) (Or.inr ⟨by kernel_rfl, rfl⟩) hHeld ?_
        simp only [List.setIfInBounds_toArray, List.set_cons_zero, List.set_cons_succ]
        refine takeD 16 32 (v := undef) rfl rfl (by kernel_rfl) (by kernel_rfl) (by kernel_rfl) (fun _ _ _ h => h) (Or.inr ⟨by kernel_rfl, rfl⟩) hHeld ?_
        simp only [List.setIfInBounds_toArray, List.set_cons_zero, List.set_cons_succ]
        refine takeD 17 33 (v := undef) rfl rfl (by kernel_rfl) (by kernel_rfl) (by kernel_rfl) (fun _ _ _ h => h) (Or.inr ⟨by kernel_rfl, rfl⟩) hHeld ?_
        simp only [List.setIfInBounds_toArray, List.set_cons_zero, List.set_cons_succ]
        refine takeD 18 34 (v := undef) rfl rfl (by kernel_rfl) (by kernel_rfl) (by kernel_rfl) (fun _ _ _ h => h) (Or.inr ⟨by kernel_rfl, rfl⟩) hHeld ?_
        simp only [List.setIfInBounds_toArray, List.set_cons_zero, List.set_cons_succ]
        refine takeD 19 35 (v := undef) rfl rfl (by kernel_rfl) (by kernel_rfl) (by kernel_rfl) (fun _ _ _ h => h) (Or.inr ⟨by kernel_rfl, rfl⟩) hHeld ?_
        simp only [List.setIfInBounds_toArray, List.set_cons_zero, List.set_cons_succ]
        refine takeD 20 36 (v := undef) rfl rfl (by kernel_rfl) (by kernel_rfl) (by kernel_rfl) (fun _ _ _ h => h) (Or.inr ⟨by kernel_rfl, rfl⟩) hHeld ?_
        simp only [List.setIfInBounds_toArray, List.set_cons_zero, List.set_cons_succ]
        refine takeD 21 37 (v := .bool false) rfl rfl (by kernel_rfl) (by kernel_rfl) (by kernel_rfl) (fun _ _ _ h => h) (Or.inl ⟨by rfl, by (intro w hSw; (try dsimp only at hSw); go_simp)⟩) hHeld ?_
        simp only [List.setIfInBounds_toArray, List.set_cons_zero, List.set_cons_succ]
        refine wpAnyH_done (by kernel_rfl) ?_ _
        go_wp2_with fail
        go_ret
        exact ⟨rfl, .slice (some ⟨b, 0, none⟩) 0 c, by rw [HE0.out]; exact hd, hf2, fun k e => Or.inl e⟩
      · obtain ⟨j, hj⟩ : ∃ j, k = j + 1 := ⟨k - 1, by omega⟩
        have hji : (k : Int) - 1 = (j : Int) := by omega
        have hjw : IntKind.i64.wrap (j : Int) = (j : Int) := by rw [IntKind.wrap_i64]; omega
        have hkp : (0 : Int) < (k : Int) := by omega
        have hkp2 : 0 < k := by omega
        have hjk : j < k := by omega
        have hx : (m.take k)[j]? = some m[j] := by rw [List.getElem?_take, if_pos hjk]; simp [show j < m.length by omega]
        generalize m[j] = s at hx
        have hxm : m[j]? = some s := by rw [List.getElem?_take, if_pos hjk] at hx; exact hx
        obtain ⟨b', c', e, _, _, _, _, _, c1, _⟩ := hp.row.cell hx
        rw [htl] at e
        cases e
        have hts := take_snoc m j s hxm
        have hd : Pgr B wr.drew qb (.slice (some ⟨b, 0, none⟩) k c) (m.take k) := hp.kept (fun _ _ => rfl)
        have hf2 := hf.drew
        cases s with
        | some r' =>
          have c1' : wr.drew.cell? ⟨b, j * 2 + 1, none⟩ = some (.bool true) := c1
          have HE0 : Hid (delN l (i : Int) = m.take k) := by
            show _ = _
            rw [HN.out, ← HM.out, ← HT.out, hj, hts, trim_some]
          clear hj hx hxm hts c1 htl hk0
          go_wp2_with fail
          refine wp_region_held_drew (S := (fun W => W.cell? ⟨qb, 0, none⟩ = some (.slice (some ⟨b, 0, none⟩) k c) ∧ W.cell? ⟨b, j * 2 + 1, none⟩ = some (.bool true))) (by kernel_rfl) (⟨qc, c1'⟩) (fun hHeld => ?_)
          refine takeD 0 16 (v := .pointer (some ⟨qb, 0, none⟩)) rfl rfl (by kernel_rfl) (by kernel_rfl) (by kernel_rfl) (fun _ _ _ h => h) (Or.inl ⟨by rfl, by (intro w hSw; (try dsimp only at hSw); go_simp)⟩) hHeld ?_
          simp only [List.setIfInBounds_toArray, List.set_cons_zero, List.set_cons_succ]
          refine takeD 1 17 (v := .pointer (some ⟨qb, 0, none⟩)) rfl rfl (by kernel_rfl) (by kernel_rfl) (by kernel_rfl) (fun _ _ _ h => h) (Or.inl ⟨by rfl, by (intro w hSw; (try dsimp only at hSw); go_simp)⟩) hHeld ?_
          simp only [List.setIfInBounds_toArray, List.set_cons_zero, List.set_cons_succ]
          refine takeD 2 18 (v := .pointer (some ⟨qb, 0, none⟩)) rfl rfl (by kernel_rfl) (by kernel_rfl) (by kernel_rfl) (fun _ _ _ h => h) (Or.inl ⟨by rfl, by (intro w hSw; (try dsimp only at hSw); go_simp)⟩) hHeld ?_
          simp only [List.setIfInBounds_toArray, List.set_cons_zero, List.set_cons_succ]
          refine takeD 3 19 (v := (.slice (some ⟨b, 0, none⟩) k c)) rfl rfl (by kernel_rfl) (by kernel_rfl) (by kernel_rfl) (fun _ _ _ h => h) (Or.inl ⟨by rfl, by (intro w hSw; (try dsimp only at hSw); go_simp)⟩) hHeld ?_
          simp only [List.setIfInBounds_toArray, List.set_cons_zero, List.set_cons_succ]
          refine takeD 4 20 (v := .int .i64 (k : Int)) rfl rfl (by kernel_rfl) (by kernel_rfl) (by kernel_rfl) (fun _ _ _ h => h) (Or.inl ⟨by rfl, by (intro w hSw; (try dsimp only at hSw); go_simp)⟩) hHeld ?_
          simp only [List.setIfInBounds_toArray, List.set_cons_zero, List.set_cons_succ]
          refine takeD 5 21 (v := .bool true) rfl rfl (by kernel_rfl) (by kernel_rfl) (by kernel_rfl) (fun _ _ _ h => h) (Or.inl ⟨by rfl, by (intro w hSw; (try dsimp only at hSw); go_simp)⟩) hHeld ?_
          simp only [List.setIfInBounds_toArray, List.set_cons_zero, List.set_cons_succ]
          refine takeD 6 22 (v := .bool true) rfl rfl (by kernel_rfl) (by kernel_rfl) (by kernel_rfl) (fun _ _ _ h => h) (Or.inl ⟨by rfl, by (intro w hSw; (try dsimp only at hSw); go_simp)⟩) hHeld ?_
          simp only [List.setIfInBounds_toArray, List.set_cons_zero, List.set_cons_succ]
          refine takeD 7 23 (v := .pointer (some ⟨qb, 0, none⟩)) rfl rfl (by kernel_rfl) (by kernel_rfl) (by kernel_rfl) (fun _ _ _ h => h) (Or.inl ⟨by rfl, by (intro w hSw; (try dsimp only at hSw); go_simp)⟩) hHeld ?_
          simp only [List.setIfInBounds_toArray, List.set_cons_zero, List.set_cons_succ]
          refine takeD 8 24 (v := .pointer (some ⟨qb, 0, none⟩)) rfl rfl (by kernel_rfl) (by kernel_rfl) (by kernel_rfl) (fun _ _ _ h => h) (Or.inl ⟨by rfl, by (intro w hSw; (try dsimp only at hSw); go_simp)⟩) hHeld ?_
          simp only [List.setIfInBounds_toArray, List.set_cons_zero, List.set_cons_succ]
          refine takeD 9 25 (v := .pointer (some ⟨qb, 0, none⟩)) rfl rfl (by kernel_rfl) (by kernel_rfl) (by kernel_rfl) (fun _ _ _ h => h) (Or.inl ⟨by rfl, by (intro w hSw; (try dsimp only at hSw); go_simp)⟩) hHeld ?_
          simp only [List.setIfInBounds_toArray, List.set_cons_zero, List.set_cons_succ]
          refine takeD 10 26 (v := (.slice (some ⟨b, 0, none⟩) k c)) rfl rfl (by kernel_rfl) (by kernel_rfl) (by kernel_rfl) (fun _ _ _ h => h) (Or.inl ⟨by rfl, by (intro w hSw; (try dsimp only at hSw); go_simp)⟩) hHeld ?_
          simp only [List.setIfInBounds_toArray, List.set_cons_zero, List.set_cons_succ]
          refine takeD 11 27 (v := .pointer (some ⟨qb, 0, none⟩)) rfl rfl (by kernel_rfl) (by kernel_rfl) (by kernel_rfl) (fun _ _ _ h => h) (Or.inl ⟨by rfl, by (intro w hSw; (try dsimp only at hSw); go_simp)⟩) hHeld ?_
          simp only [List.setIfInBounds_toArray, List.set_cons_zero, List.set_cons_succ]
          refine takeD 12 28 (v := .pointer (some ⟨qb, 0, none⟩)) rfl rfl (by kernel_rfl) (by kernel_rfl) (by kernel_rfl) (fun _ _ _ h => h) (Or.inl ⟨by rfl, by (intro w hSw; (try dsimp only at hSw); go_simp)⟩) hHeld ?_
          simp only [List.setIfInBounds_toArray, List.set_cons_zero, List.set_cons_succ]
          refine takeD 13 29 (v := .pointer (some ⟨qb, 0, none⟩)) rfl rfl (by kernel_rfl) (by kernel_rfl) (by kernel_rfl) (fun _ _ _ h => h) (Or.inl ⟨by rfl, by (intro w hSw; (try dsimp only at hSw); go_simp)⟩) hHeld ?_
          simp only [List.setIfInBounds_toArray, List.set_cons_zero, List.set_cons_succ]
          refine takeD 14 30 (v := (.slice (some ⟨b, 0, none⟩) k c)) rfl rfl (by kernel_rfl) (by kernel_rfl) (by kernel_rfl) (fun _ _ _ h => h) (Or.inl ⟨by rfl, by (intro w hSw; (try dsimp only at hSw); go_simp)⟩) hHeld ?_
          simp only [List.setIfInBounds_toArray, List.set_cons_zero, List.set_cons_succ]
          refine takeD 15 31 (v := .int .i64 (k : Int)) rfl rfl (by kernel_rfl) (by kernel_rfl) (by kernel_rfl) (fun _ _ _ h => h) (Or.inl ⟨by rfl, by (intro w hSw; (try dsimp only at hSw); go_simp)⟩) hHeld ?_
          simp only [List.setIfInBounds_toArray, List.set_cons_zero, List.set_cons_succ]
          refine takeD 16 32 (v := .int .i64 (j : Int)) rfl rfl (by kernel_rfl) (by kernel_rfl) (by kernel_rfl) (fun _ _ _ h => h) (Or.inl ⟨by rfl, by (intro w hSw; (try dsimp only at hSw); go_simp)⟩) hHeld ?_
          simp only [List.setIfInBounds_toArray, List.set_cons_zero, List.set_cons_succ]
          refine takeD 17 33 (v := .pointer (some ⟨b, j * 2, none⟩)) rfl rfl (by kernel_rfl) (by kernel_rfl) (by kernel_rfl) (fun _ _ _ h => h) (Or.inl ⟨by rfl, by (intro w hSw; (try dsimp only at hSw); go_simp)⟩) hHeld ?_
          simp only [List.setIfInBounds_toArray, List.set_cons_zero, List.set_cons_succ]
          refine takeD 18 34 (v := .pointer (some ⟨b, j * 2 + 1, none⟩)) rfl rfl (by kernel_rfl) (by kernel_rfl) (by kernel_rfl) (fun _ _ _ h => h) (Or.inl ⟨by rfl, by (intro w hSw; (try dsimp only at hSw); go_simp)⟩) hHeld ?_
          simp only [List.setIfInBounds_toArray, List.set_cons_zero, List.set_cons_succ]
          refine takeD 19 35 (v := .bool true) rfl rfl (by kernel_rfl) (by kernel_rfl) (by kernel_rfl) (fun _ _ _ h => h) (Or.inl ⟨by rfl, by (intro w hSw; (try dsimp only at hSw); go_simp)⟩) hHeld ?_
          simp only [List.setIfInBounds_toArray, List.set_cons_zero, List.set_cons_succ]
          refine takeD 20 36 (v := .bool false) rfl rfl (by kernel_rfl) (by kernel_rfl) (by kernel_rfl) (fun _ _ _ h => h) (Or.inl ⟨by rfl, by (intro w hSw; (try dsimp only at hSw); go_simp)⟩) hHeld ?_
          simp only [List.setIfInBounds_toArray, List.set_cons_zero, List.set_cons_succ]
          refine takeD 21 37 (v := .bool false) rfl rfl (by kernel_rfl) (by kernel_rfl) (by kernel_rfl) (fun _ _ _ h => h) (Or.inl ⟨by rfl, by (intro w hSw; (try dsimp only at hSw); go_simp)⟩) hHeld ?_
          simp only [List.setIfInBounds_toArray, List.set_cons_zero, List.set_cons_succ]
          refine wpAnyH_done (by kernel_rfl) ?_ _
          go_wp2_with fail
          go_ret
          exact ⟨rfl, .slice (some ⟨b, 0, none⟩) k c, by rw [HE0.out]; exact hd, hf2, fun k e => Or.inl e⟩
        | none =>
          have c1' : wr.drew.cell? ⟨b, j * 2 + 1, none⟩ = some (.bool false) := c1
          have HT2 : Hid (trimL (m.take j) = trimL m) := by
            show _ = _
            rw [← HT.out, hj, hts, trim_none]
          have hrj : Rw 122 rf wr B (.slice (some ⟨b, 0, none⟩) j c) (m.take j) := by
            have q := hp.row.takeN htl (k := j) (by omega)
            rw [List.take_take, Nat.min_eq_left (by omega)] at q
            exact q
          have hp2 := hp.put hrj (by intro e; exact hbq (Option.some.inj e))
          have qfd : wr.drew.frozen? ⟨qb, 0, none⟩ = false := qf0
          have hf3 := hf.set (p := ⟨qb, 0, none⟩) (Or.inl (Or.inl rfl)) (.slice (some ⟨b, 0, none⟩) j c)
          have hjc : j ≤ c := by omega
          clear hx hxm hts c1 htl hk0 HT hrj
          have HJ : Hid (k = j + 1) := hj
          clear hj
          go_wp2_with fail
          refine wp_region_held_drew (S := (fun W => W.cell? ⟨qb, 0, none⟩ = some (.slice (some ⟨b, 0, none⟩) k c) ∧ W.cell? ⟨b, j * 2 + 1, none⟩ = some (.bool false))) (by kernel_rfl) (⟨qc, c1'⟩) (fun hHeld => ?_)
          refine takeD 0 16 (v := .pointer (some ⟨qb, 0, none⟩)) rfl rfl (by kernel_rfl) (by kernel_rfl) (by kernel_rfl) (fun _ _ _ h => h) (Or.inl ⟨by rfl, by (intro w hSw; (try dsimp only at hSw); go_simp)⟩) hHeld ?_
          simp only [List.setIfInBounds_toArray, List.set_cons_zero, List.set_cons_succ]
          refine takeD 1 17 (v := .pointer (some ⟨qb, 0, none⟩)) rfl rfl (by kernel_rfl) (by kernel_rfl) (by kernel_rfl) (fun _ _ _ h => h) (Or.inl ⟨by rfl, by (intro w hSw; (try dsimp only at hSw); go_simp)⟩) hHeld ?_
          simp only [List.setIfInBounds_toArray, List.set_cons_zero, List.set_cons_succ]
          refine takeD 2 18 (v := .pointer (some ⟨qb, 0, none⟩)) rfl rfl (by kernel_rfl) (by kernel_rfl) (by kernel_rfl) (fun _ _ _ h => h) (Or.inl ⟨by rfl, by (intro w hSw; (try dsimp only at hSw); go_simp)⟩) hHeld ?_
          simp only [List.setIfInBounds_toArray, List.set_cons_zero, List.set_cons_succ]
          refine takeD 3 19 (v := (.slice (some ⟨b, 0, none⟩) k c)) rfl rfl (by kernel_rfl) (by kernel_rfl) (by kernel_rfl) (fun _ _ _ h => h) (Or.inl ⟨by rfl, by (intro w hSw; (try dsimp only at hSw); go_simp)⟩) hHeld ?_
          simp only [List.setIfInBounds_toArray, List.set_cons_zero, List.set_cons_succ]
          refine takeD 4 20 (v := .int .i64 (k : Int)) rfl rfl (by kernel_rfl) (by kernel_rfl) (by kernel_rfl) (fun _ _ _ h => h) (Or.inl ⟨by rfl, by (intro w hSw; (try dsimp only at hSw); go_simp)⟩) hHeld ?_
          simp only [List.setIfInBounds_toArray, List.set_cons_zero, List.set_cons_succ]
          refine takeD 5 21 (v := .bool true) rfl rfl (by kernel_rfl) (by kernel_rfl) (by kernel_rfl) (fun _ _ _ h => h) (Or.inl ⟨by rfl, by (intro w hSw; (try dsimp only at hSw); go_simp)⟩) hHeld ?_
          simp only [List.setIfInBounds_toArray, List.set_cons_zero, List.set_cons_succ]
          refine takeD 6 22 (v := .bool true) rfl rfl (by kernel_rfl) (by kernel_rfl) (by kernel_rfl) (fun _ _ _ h => h) (Or.inl ⟨by rfl, by (intro w hSw; (try dsimp only at hSw); go_simp)⟩) hHeld ?_
          simp only [List.setIfInBounds_toArray, List.set_cons_zero, List.set_cons_succ]
          refine takeD 7 23 (v := .pointer (some ⟨qb, 0, none⟩)) rfl rfl (by kernel_rfl) (by kernel_rfl) (by kernel_rfl) (fun _ _ _ h => h) (Or.inl ⟨by rfl, by (intro w hSw; (try dsimp only at hSw); go_simp)⟩) hHeld ?_
          simp only [List.setIfInBounds_toArray, List.set_cons_zero, List.set_cons_succ]
          refine takeD 8 24 (v := .pointer (some ⟨qb, 0, none⟩)) rfl rfl (by kernel_rfl) (by kernel_rfl) (by kernel_rfl) (fun _ _ _ h => h) (Or.inl ⟨by rfl, by (intro w hSw; (try dsimp only at hSw); go_simp)⟩) hHeld ?_
          simp only [List.setIfInBounds_toArray, List.set_cons_zero, List.set_cons_succ]
          refine takeD 9 25 (v := .pointer (some ⟨qb, 0, none⟩)) rfl rfl (by kernel_rfl) (by kernel_rfl) (by kernel_rfl) (fun _ _ _ h => h) (Or.inl ⟨by rfl, by (intro w hSw; (try dsimp only at hSw); go_simp)⟩) hHeld ?_
          simp only [List.setIfInBounds_toArray, List.set_cons_zero, List.set_cons_succ]
          refine takeD 10 26 (v := (.slice (some ⟨b, 0, none⟩) k c)) rfl rfl (by kernel_rfl) (by kernel_rfl) (by kernel_rfl) (fun _ _ _ h => h) (Or.inl ⟨by rfl, by (intro w hSw; (try dsimp only at hSw); go_simp)⟩) hHeld ?_
          simp only [List.setIfInBounds_toArray, List.set_cons_zero, List.set_cons_succ]
          refine takeD 11 27 (v := .pointer (some ⟨qb, 0, none⟩)) rfl rfl (by kernel_rfl) (by kernel_rfl) (by kernel_rfl) (fun _ _ _ h => h) (Or.inl ⟨by rfl, by (intro w hSw; (try dsimp only at hSw); go_simp)⟩) hHeld ?_
          simp only [List.setIfInBounds_toArray, List.set_cons_zero, List.set_cons_succ]
          refine takeD 12 28 (v := .pointer (some ⟨qb, 0, none⟩)) rfl rfl (by kernel_rfl) (by kernel_rfl) (by kernel_rfl) (fun _ _ _ h => h) (Or.inl ⟨by rfl, by (intro w hSw; (try dsimp only at hSw); go_simp)⟩) hHeld ?_
          simp only [List.setIfInBounds_toArray, List.set_cons_zero, List.set_cons_succ]
          refine takeD 13 29 (v := .pointer (some ⟨qb, 0, none⟩)) rfl rfl (by kernel_rfl) (by kernel_rfl) (by kernel_rfl) (fun _ _ _ h => h) (Or.inl ⟨by rfl, by (intro w hSw; (try dsimp only at hSw); go_simp)⟩) hHeld ?_
          simp only [List.setIfInBounds_toArray, List.set_cons_zero, List.set_cons_succ]
          refine takeD 14 30 (v := (.slice (some ⟨b, 0, none⟩) k c)) rfl rfl (by kernel_rfl) (by kernel_rfl) (by kernel_rfl) (fun _ _ _ h => h) (Or.inl ⟨by rfl, by (intro w hSw; (try dsimp only at hSw); go_simp)⟩) hHeld ?_
          simp only [List.setIfInBounds_toArray, List.set_cons_zero, List.set_cons_succ]
          refine takeD 15 31 (v := .int .i64 (k : Int)) rfl rfl (by kernel_rfl) (by kernel_rfl) (by kernel_rfl) (fun _ _ _ h => h) (Or.inl ⟨by rfl, by (intro w hSw; (try dsimp only at hSw); go_simp)⟩) hHeld ?_
          simp only [List.setIfInBounds_toArray, List.set_cons_zero, List.set_cons_succ]
          refine takeD 16 32 (v := .int .i64 (j : Int)) rfl rfl (by kernel_rfl) (by kernel_rfl) (by kernel_rfl) (fun _ _ _ h => h) (Or.inl ⟨by rfl, by (intro w hSw; (try dsimp only at hSw); go_simp)⟩) hHeld ?_
          simp only [List.setIfInBounds_toArray, List.set_cons_zero, List.set_cons_succ]
          refine takeD 17 33 (v := .pointer (some ⟨b, j * 2, none⟩)) rfl rfl (by kernel_rfl) (by kernel_rfl) (by kernel_rfl) (fun _ _ _ h => h) (Or.inl ⟨by rfl, by (intro w hSw; (try dsimp only at hSw); go_simp)⟩) hHeld ?_
          simp only [List.setIfInBounds_toArray, List.set_cons_zero, List.set_cons_succ]
          refine takeD 18 34 (v := .pointer (some ⟨b, j * 2 + 1, none⟩)) rfl rfl (by kernel_rfl) (by kernel_rfl) (by kernel_rfl) (fun _ _ _ h => h) (Or.inl ⟨by rfl, by (intro w hSw; (try dsimp only at hSw); go_simp)⟩) hHeld ?_
          simp only [List.setIfInBounds_toArray, List.set_cons_zero, List.set_cons_succ]
          refine takeD 19 35 (v := .bool false) rfl rfl (by kernel_rfl) (by kernel_rfl) (by kernel_rfl) (fun _ _ _ h => h) (Or.inl ⟨by rfl, by (intro w hSw; (try dsimp only at hSw); go_simp)⟩) hHeld ?_
          simp only [List.setIfInBounds_toArray, List.set_cons_zero, List.set_cons_succ]
          refine takeD 20 36 (v := .bool true) rfl rfl (by kernel_rfl) (by kernel_rfl) (by kernel_rfl) (fun _ _ _ h => h) (Or.inl ⟨by rfl, by (intro w hSw; (try dsimp only at hSw); go_simp)⟩) hHeld ?_
          simp only [List.setIfInBounds_toArray, List.set_cons_zero, List.set_cons_succ]
          refine takeD 21 37 (v := .bool true) rfl rfl (by kernel_rfl) (by kernel_rfl) (by kernel_rfl) (fun _ _ _ h => h) (Or.inl ⟨by rfl, by (intro w hSw; (try dsimp only at hSw); go_simp)⟩) hHeld ?_
          simp only [List.setIfInBounds_toArray, List.set_cons_zero, List.set_cons_succ]
          refine wpAnyH_done (by kernel_rfl) ?_ _
          go_wp2_with fail
          go_region
          go_wp2_with fail
          go_roundw
          case rel => exact ⟨j, by omega, hp2.kept (fun _ _ => rfl), HT2, hf3.drew.drew⟩
          case measure =>
            have e2 := hp2.cell.1
            have e3 : ((wr.setCell ⟨qb, 0, none⟩ (.slice (some ⟨b, 0, none⟩) j c)).drew.drew).cell? ⟨qb, 0, none⟩ = some (.slice (some ⟨b, 0, none⟩) j c) := e2
            rw [e3, qc0]
            exact hjk

end Go.Proofs.YtjmdenlocmleiaaGreat
end

section
namespace Go.Proofs.YtjmdenlocmleiaaGreat
open Go.RowKit

/-- append of a row of slots to an empty one. -/
theorem wpList_copy_rf {ops : Array Oper} {rest : List Oper} {o : Oper} {act : Act} {Q : Exit → Act → World → Prop} (hgd : o.guard = none) (s x : Operand)
    (ho : o.op = .call { callee := .builtin .append, args := #[s, x], argTypes := #[68, 68] })
    (w : World) (H : Nat) (hH : H = w.heap.size) (hs : act.eval s = .slice (some ⟨H, 0, none⟩) 0 0) (B : Nat) (v : Value) (l : List Sl) (hx : act.eval x = v) (hrow : Rw 122 rf w B v l) (hl : l.length ≤ 1000)
    (h : ∀ v' w8, Rw 122 rf w8 w.heap.size v' l → Below w.heap.size w w8 → wpList Tryz.prog ops Q rest (act.put o.dst v') w8) :
    wpList Tryz.prog ops Q (o :: rest) act (w.alloc (.cells #[] 122)) := by
  subst hH
  obtain ⟨i0, hi, hz0, hz1, hz2⟩ := info_parts Tryz.info122
  have hmade : (w.alloc (.cells #[] 122)).ownsRow w.heap.size 122 2 (.slice (some ⟨w.heap.size, 0, none⟩) 0 0) 0 [] := World.ownsRow_made w #[] 0 (Nat.le_refl _) (Nat.zero_le _) rfl
  have hrow' := hrow.below' (below_alloc1 w (.cells #[] 122))
  rcases hrow.own.2 with ⟨rfl, e⟩ | ⟨g, cap, cur, rfl, _, _, hlc, hcm, _⟩
  · have e : l = [] := List.eq_nil_of_length_eq_zero e
    subst e
    refine wpList_append_own_none hgd s x 68 ho w.heap.size 122 i0 2 Tryz.underlying68 hi _ 0 [] hs hmade hx ?_
    exact h _ _ ⟨hmade⟩ (below_alloc1 w _)
  · refine wpList_append_own _ hgd s x 68 ho w.heap.size 122 i0 _ 2 24 Tryz.underlying68 hi hz0 hz1 hz2 rfl (by decide) _ 0 [] hs hmade ⟨g, 0, none⟩ l.length cap (cl2 rf l) hx (cl2_len l) ?_ (rf_one l) (by unfold maxLen; omega) (by omega) (by simp) ?_
    · intro j u hu
      rw [Addr.add_lit, Nat.zero_add]
      have hj := (List.getElem?_eq_some_iff.1 hu).1
      rw [cl2_len] at hj
      rw [hrow'.own.cellAt j (by omega)]
      exact hu
    · intro v8 w8 ho8 hg8 _
      rw [Nat.zero_add, List.nil_append] at ho8
      exact h v8 w8 ⟨ho8⟩ ((below_alloc1 w _).trans ((Below.refl _ _).grown hg8 (by simp) (fun k hk => by cases hk; exact Nat.le_refl _)))

/-- append of one slot. -/
theorem wpList_append_rf {ops : Array Oper} {rest : List Oper} {o : Oper} {ac : Act} {Q : Exit → Act → World → Prop} (w : World) (hgd : o.guard = none) (s x : Operand)
    (ho : o.op = .call { callee := .builtin .append, args := #[s, x], argTypes := #[68, 68] })
    (B : Nat) (v : Value) (l : List Sl) (hs : ac.eval s = v) (hrow : Rw 122 rf w B v l) (a : Nat) (y : Sl) (hx : ac.eval x = .slice (some ⟨a, 0, none⟩) 1 1) (h0 : w.cell? ⟨a, 0, none⟩ = some (rf y).1) (h1 : w.cell? ⟨a, 1, none⟩ = some (rf y).2) (hlen : l.length ≤ 1000) (hB : B ≤ w.heap.size)
    (h : ∀ v' w', Rw 122 rf w' B v' (l ++ [y]) → Fr (fun k => v.ownBlock = some k) w w' → (∀ k, v'.ownBlock = some k → v.ownBlock = some k ∨ w.heap.size ≤ k) → wpList Tryz.prog ops Q rest (ac.put o.dst v') w') : wpList Tryz.prog ops Q (o :: rest) ac w := by
  obtain ⟨v', w', hr, h2, h3, h4⟩ := run_append_rf w B o.type v l [y] hrow ⟨a, 0, none⟩ 1 (by
    intro j u hu
    rw [Addr.add_lit]
    match j, hu with
    | 0, hu => simp [cl2] at hu; subst hu; exact h0
    | 1, hu => simp [cl2] at hu; subst hu; exact h1) (by simp; omega) hB
  refine wpList_plain hgd fun K hK => ?_
  unfold Oper.wp execOp
  simp only [List.length_cons, List.length_nil, Nat.zero_add] at hr
  simp only [ho, resolve, invoke, builtin, Sem.run_bind, Sem.run_pure, Result.andThen_ok, List.map_toArray, List.map_cons, List.map_nil, hs, hx, hr]
  exact hK _ _ (h v' w' h2 h3 h4)

theorem insert_new {B : Nat} {w : World} {qb : Nat} {v : Value} {l : List Sl} {w8 w9 : World} {v8 v9 : Value} {o : Obj} (row : ByteArray) (h : Pgr B w qb v l) (hBw : B ≤ w.heap.size) (hr8 : Rw 122 rf w8 w.heap.size v8 l) (hb8 : Below w.heap.size w w8) (hr9 : Rw 122 rf w9 w.heap.size v9 (l ++ [none])) (hf9 : Fr (fun k => v8.ownBlock = some k) (w8.alloc o) w9) :
    ∃ b c9, v9 = .slice (some ⟨b, 0, none⟩) (l.length + 1) c9 ∧ l.length + 1 ≤ c9 ∧ w9.cell? ⟨qb, 0, none⟩ = some v ∧ w9.frozen? ⟨qb, 0, none⟩ = false ∧ qb ≠ b ∧
      w9.cell? ⟨b, l.length * 2, none⟩ = some (.string ⟨#[]⟩) ∧ w9.cell? ⟨b, l.length * 2 + 1, none⟩ = some (.bool false) ∧ w9.frozen? ⟨b, l.length * 2, none⟩ = false ∧ w9.frozen? ⟨b, l.length * 2 + 1, none⟩ = false ∧
      PgTo B w qb v ((l ++ [none]).set l.length (some row)) (((w9.setCell ⟨qb, 0, none⟩ (.slice (some ⟨b, 0, none⟩) (l.length + 1) c9)).setCell ⟨b, l.length * 2, none⟩ (.string row)).setCell ⟨b, l.length * 2 + 1, none⟩ (.bool true)) := by
  have hb9 : Below w.heap.size w w9 := hf9.below (hb8.trans ((below_alloc1 w8 o).mono hb8.size)) (by have := hb8.size; simp; omega) (fun k e => (hr8.blk e).1)
  have h9 := h.below hb9
  obtain ⟨b, c9, e, hc9, _, hB9, hbl, c0, c1, f0, f1⟩ := hr9.cell (i := l.length) (s := none) (by simp)
  have hlen : (l ++ [none]).length = l.length + 1 := by simp
  rw [hlen] at e hc9
  have hq := h.qlt
  have hp := h9.put (hr9.mono hBw) (by rw [e]; intro q; have q : b = qb := Option.some.inj q; omega)
  rw [e] at hp
  obtain ⟨q1, q2⟩ := h9.cell
  refine ⟨b, c9, e, hc9, q1, q2, by omega, c0, c1, f0, f1, ?_⟩
  have hr := hp.row
  rw [← hlen] at hr
  have hrw := hr.set2 (i := l.length) (s := some row)
  rw [hlen] at hrw
  have f : Fr (fun k => (Value.slice (some ⟨b, 0, none⟩) (l.length + 1) c9).ownBlock = some k) (w9.setCell ⟨qb, 0, none⟩ (.slice (some ⟨b, 0, none⟩) (l.length + 1) c9)) (((w9.setCell ⟨qb, 0, none⟩ (.slice (some ⟨b, 0, none⟩) (l.length + 1) c9)).setCell ⟨b, l.length * 2, none⟩ (.string row)).setCell ⟨b, l.length * 2 + 1, none⟩ (.bool true)) :=
    Fr.set (F := fun k => (Value.slice (some ⟨b, 0, none⟩) (l.length + 1) c9).ownBlock = some k) (Fr.set (F := fun k => (Value.slice (some ⟨b, 0, none⟩) (l.length + 1) c9).ownBlock = some k) (Fr.refl _ _) (p := ⟨b, l.length * 2, none⟩) (Or.inl rfl) _) (p := ⟨b, l.length * 2 + 1, none⟩) (Or.inl rfl) _
  refine ⟨_, hp.over hrw f, ?_, ?_⟩
  · exact Fr.set (F := footP qb v) (Fr.set (F := footP qb v) (Fr.set (F := footP qb v) (Fr.of_below hb9) (p := ⟨qb, 0, none⟩) (Or.inl (Or.inl rfl)) _) (p := ⟨b, l.length * 2, none⟩) (Or.inr hB9) _) (p := ⟨b, l.length * 2 + 1, none⟩) (Or.inr hB9) _
  · intro k e
    have e : b = k := Option.some.inj e
    exact Or.inr (by omega)

set_option maxHeartbeats 3200000 in
set_option maxRecDepth 100000 in
theorem rins_any {B : Nat} {w : World} {qb : Nat} {v : Value} {l : List Sl} (h : Pgr B w qb v l) (hBw : B ≤ w.heap.size) (hF : Fine l) (row : ByteArray) (hrs : row.size ≤ 1000000) (P : ByteArray) (K E : Int) (HE : Hid (insR l row = (P, K, E))) :
    Calls Tryz.prog 35 #[.pointer (some ⟨qb, 0, none⟩), .string row] w fun e w' => e = .returned (.tuple #[.int .i64 K, .int .i64 E]) ∧ PgTo B w qb v (insN l row) w' := by
  have hl : l.length ≤ 127 := few hF.room
  obtain ⟨hc0, hcf⟩ := h.cell
  by_cases h4 : 400 < row.size
  · have h42 : (400 : Int) < (row.size : Int) := by omega
    have hE : insE l row = 2 := by unfold insE; rw [if_pos h4]
    obtain ⟨rfl, rfl⟩ : K = 0 ∧ E = 2 := by
      have := HE.out
      unfold insR at this
      rw [hE, if_neg (by decide)] at this
      cases this
      exact ⟨rfl, rfl⟩
    have hN : insN l row = l := by unfold insN; rw [hE]; rfl
    have hP := PgTo.same h
    rw [hN]
    clear hE hN HE
    go_enter Tryz.func35, Tryz.ntmps35
    go_wp2_with fail
    go_ret2
    exact ⟨rfl, hP⟩
  · have h42 : ¬ (400 : Int) < (row.size : Int) := by omega
    obtain ⟨T, hT⟩ : ∃ T : Int, 4 + 4 * (l.length : Int) + (tot l : Int) = T := ⟨_, rfl⟩
    have cS := rsize_any h (by omega) hF.rows T hT
    have hTb : 0 ≤ T ∧ T ≤ 512 := by have := hF.room; unfold room at this; omega
    have hw := withF_tot l
    have hfl := first_le l
    have cF := rfirst_any h (by omega) (first l) rfl
    by_cases hf : first l < l.length
    · have hne : ((first l : Int) == (l.length : Int)) = false := by rw [beq_eq_false_iff_ne]; omega
      have hwf : withF l = l := by unfold withF; rw [if_pos hf]
      by_cases h5 : 512 < T + (row.size : Int)
      · have hE : insE l row = 50 := by unfold insE; rw [if_neg h4, hwf, if_pos (by unfold room; omega)]
        obtain ⟨rfl, rfl⟩ : K = 0 ∧ E = 50 := by
          have := HE.out
          unfold insR at this
          rw [hE, if_neg (by decide)] at this
          cases this
          exact ⟨rfl, rfl⟩
        have hN : insN l row = l := by unfold insN; rw [hE]; rfl
        have hP := PgTo.same h
        rw [hN]
        obtain ⟨a, c, hv, hlc, _⟩ := h.row.len
        subst hv
        generalize first l = F at *
        clear hE hN HE hT hwf hw
        go_enter Tryz.func35, Tryz.ntmps35
        go_wp2_with fail
        refine cF.mono ?_
        rintro e w1 ⟨rfl, e1⟩
        rw [e1]
        clear e1 cF
        go_wp2_with fail
        refine cS.mono ?_
        rintro e w2 ⟨rfl, e2⟩
        rw [e2]
        clear e2 cS
        go_wp2_with fail
        go_ret2
        exact ⟨rfl, hP⟩
      · have hE : insE l row = 0 := by unfold insE; rw [if_neg h4, hwf, if_neg (by unfold room; omega)]
        obtain ⟨rfl, rfl⟩ : K = (first l : Int) ∧ E = 0 := by
          have := HE.out
          unfold insR at this
          rw [if_pos hE] at this
          cases this
          exact ⟨rfl, rfl⟩
        have hN : insN l row = l.set (first l) (some row) := by unfold insN insL; rw [hE, if_pos rfl, hwf]
        have hx := first_none l hf
        rw [hN]
        generalize first l = F at *
        obtain ⟨b, c, e, hlc, _, hB, hbl, c0, c1, f0, f1⟩ := h.row.cell hx
        subst e
        have c0' : w.cell? ⟨b, F * 2, none⟩ = some (.string ⟨#[]⟩) := c0
        have c1' : w.cell? ⟨b, F * 2 + 1, none⟩ = some (.bool false) := c1
        have hrw := h.row.set2 (i := F) (s := some row)
        have fw : Fr (fun k => (Value.slice (some ⟨b, 0, none⟩) l.length c).ownBlock = some k) w ((w.setCell ⟨b, F * 2, none⟩ (.string row)).setCell ⟨b, F * 2 + 1, none⟩ (.bool true)) := Fr.set (F := fun k => (Value.slice (some ⟨b, 0, none⟩) l.length c).ownBlock = some k) (Fr.set (F := fun k => (Value.slice (some ⟨b, 0, none⟩) l.length c).ownBlock = some k) (Fr.refl _ _) (p := ⟨b, F * 2, none⟩) (Or.inl rfl) _) (p := ⟨b, F * 2 + 1, none⟩) (Or.inl rfl) _
        have hP : PgTo B w qb (.slice (some ⟨b, 0, none⟩) l.length c) (l.set F (some row)) ((w.setCell ⟨b, F * 2, none⟩ (.string row)).setCell ⟨b, F * 2 + 1, none⟩ (.bool true)) :=
          ⟨_, h.over hrw fw, ⟨fw.os, fw.tape, fw.output, fw.size, fun k hk hf => fw.block k hk (fun e => hf (Or.inr e))⟩, fun k e => Or.inl e⟩
        clear hE hN HE hT hwf hw c0 c1 hrw fw
        go_enter Tryz.func35, Tryz.ntmps35
        go_wp2_with fail
        refine cF.mono ?_
        rintro e w1 ⟨rfl, e1⟩
        rw [e1]
        clear e1 cF
        go_wp2_with fail
        refine cS.mono ?_
        rintro e w2 ⟨rfl, e2⟩
        rw [e2]
        clear e2 cS
        go_wp2_with fail
        go_ret2
        exact ⟨rfl, hP⟩
    · have hFe : first l = l.length := by omega
      have hne : ((l.length : Int) == (l.length : Int)) = true := by rw [beq_iff_eq]
      have hwf : withF l = l ++ [none] := by unfold withF; rw [if_neg hf]
      by_cases h5 : 512 < T + (row.size : Int) + 4
      · have hE : insE l row = 50 := by
          unfold insE
          rw [if_neg h4, if_pos]
          unfold room
          rw [hw, hwf]
          simp
          omega
        obtain ⟨rfl, rfl⟩ : K = 0 ∧ E = 50 := by
          have := HE.out
          unfold insR at this
          rw [hE, if_neg (by decide)] at this
          cases this
          exact ⟨rfl, rfl⟩
        have hN : insN l row = l := by unfold insN; rw [hE]; rfl
        have hP := PgTo.same h
        rw [hN]
        obtain ⟨a, c, hv, hlc, _⟩ := h.row.len
        subst hv
        rw [hFe] at cF
        clear hE hN HE hT hwf hw hf hfl hFe
        go_enter Tryz.func35, Tryz.ntmps35
        go_wp2_with fail
        refine cF.mono ?_
        rintro e w1 ⟨rfl, e1⟩
        rw [e1]
        clear e1 cF
        go_wp2_with fail
        refine cS.mono ?_
        rintro e w2 ⟨rfl, e2⟩
        rw [e2]
        clear e2 cS
        go_wp2_with fail
        go_ret2
        exact ⟨rfl, hP⟩
      · have hE : insE l row = 0 := by
          unfold insE
          rw [if_neg h4, if_neg]
          unfold room
          rw [hw, hwf]
          simp
          omega
        obtain ⟨rfl, rfl⟩ : K = (l.length : Int) ∧ E = 0 := by
          have := HE.out
          unfold insR at this
          rw [if_pos hE] at this
          cases this
          exact ⟨by rw [hFe], rfl⟩
        have hN : insN l row = (l ++ [none]).set l.length (some row) := by unfold insN insL; rw [hE, if_pos rfl, hwf, hFe]
        rw [hN]
        rw [hFe] at cF
        have hrow := h.row
        have hq := h.qlt
        obtain ⟨a, c, hv, hlc, _⟩ := h.row.len
        subst hv
        clear hE hN HE hT hwf hw hf hfl hFe
        go_enter Tryz.func35, Tryz.ntmps35
        go_wp2_with fail
        refine cF.mono ?_
        rintro e w1 ⟨rfl, e1⟩
        rw [e1]
        clear e1 cF
        go_wp2_with fail
        refine cS.mono ?_
        rintro e w2 ⟨rfl, e2⟩
        rw [e2]
        clear e2 cS
        go_wp2_with (at_builtin; first
          | (refine wpList_append_rf _ rfl (.tmp 42) (.tmp 44) rfl w.heap.size _ l rfl (hr8.below' (below_alloc1 w8 _)) w8.heap.size none rfl (by simp; rfl) (by simp; rfl) (by omega) (by have := hb8.size; simp; omega) ?_; intro v9 w9 hr9 hf9 hn9; obtain ⟨b, c9, hv9, hc9, p9, k9, z9, y0, y1, g0, g1, hP⟩ := insert_new row h hBw hr8 hb8 hr9 hf9; subst hv9; clear hr9 hf9 hn9 hr8 hb8)
          | (refine wpList_copy_rf rfl (.tmp 37) (.tmp 41) rfl w w.heap.size rfl rfl B _ l rfl hrow (by omega) ?_; intro v8 w8 hr8 hb8))
        go_ret2
        exact ⟨rfl, hP⟩

end Go.Proofs.YtjmdenlocmleiaaGreat
end

section
namespace Go.Proofs.YtjmdenlocmleiaaGreat
open Go.RowKit

/-- Where the document's heap lies: its box, its row of pages, each page's box and row. -/
structure RH where
  q : Nat
  rv : Value
  P : List (Nat × Value)

def RH.ft (r : RH) (k : Nat) : Prop := k = r.q ∨ r.rv.ownBlock = some k ∨ ∃ (i : Nat) (x : Nat × Value), r.P[i]? = some x ∧ footP x.1 x.2 k
def pptr (x : Nat × Value) : Value := .pointer (some ⟨x.1, 0, none⟩)

structure Rh (B : Nat) (w : World) (r : RH) (n : Nat) (H : Hp) : Prop where
  top : w.heap[r.q]? = some (.cells #[r.rv] 66 (0, 0))
  qB : B ≤ r.q
  row : w.ownsRow B 67 1 r.rv r.P.length (r.P.map pptr)
  pgs : ∀ (i : Nat) (x : Nat × Value), r.P[i]? = some x → Pgr B w x.1 x.2 (H i)
  len : r.P.length = n
  ap : ∀ (i j : Nat) (x y : Nat × Value), r.P[i]? = some x → r.P[j]? = some y → i ≠ j → ∀ k, footP x.1 x.2 k → ¬ footP y.1 y.2 k

/-- What a call makes of it. -/
def RTo (B : Nat) (w : World) (r : RH) (n : Nat) (H' : Hp) (w' : World) : Prop :=
  ∃ r' : RH, r'.q = r.q ∧ Rh B w' r' n H' ∧ Fr r.ft w w' ∧ ∀ k, r'.ft k → r.ft k ∨ w.heap.size ≤ k

section
variable {B : Nat} {w w' : World} {r : RH} {n : Nat} {H : Hp}

theorem Pgr.tag {qb : Nat} {v : Value} {l : List Sl} (h : Pgr B w qb v l) {k : Nat} (hk : footP qb v k) : tagOf w.heap[k]? = some 70 ∨ tagOf w.heap[k]? = some 122 := by
  rcases hk with rfl | hk
  · rw [h.box]; exact Or.inl rfl
  · exact Or.inr (own_tag h.row.own hk)
theorem Rh.qlt (h : Rh B w r n H) : r.q < w.heap.size := lt_of_some h.top
theorem Rh.from (h : Rh B w r n H) {k : Nat} (hk : r.ft k) : B ≤ k ∧ k < w.heap.size := by
  rcases hk with rfl | hk | ⟨i, x, hx, hk⟩
  · exact ⟨h.qB, h.qlt⟩
  · exact h.row.lt k hk
  · exact (h.pgs i x hx).lt k hk
theorem Rh.qOff (h : Rh B w r n H) {i : Nat} {x : Nat × Value} (hx : r.P[i]? = some x) : ¬ footP x.1 x.2 r.q := fun q => by
  have := (h.pgs i x hx).tag q
  rw [h.top] at this
  simp [tagOf] at this
theorem Rh.rOff (h : Rh B w r n H) {i : Nat} {x : Nat × Value} (hx : r.P[i]? = some x) {k : Nat} (hk : r.rv.ownBlock = some k) : ¬ footP x.1 x.2 k := fun q => by
  have := (h.pgs i x hx).tag q
  rw [own_tag h.row hk] at this
  simp at this
theorem Rh.kept (h : Rh B w r n H) (hk : ∀ k, r.ft k → w'.heap[k]? = w.heap[k]?) : Rh B w' r n H :=
  ⟨(hk _ (Or.inl rfl)).trans h.top, h.qB, owns_kept h.row (fun k e _ => hk k (Or.inr (Or.inl e))), fun i x hx => (h.pgs i x hx).kept (fun k e => hk k (Or.inr (Or.inr ⟨i, x, hx, e⟩))), h.len, h.ap⟩
theorem Rh.below (h : Rh B w r n H) (b : Below w.heap.size w w') : Rh B w' r n H := h.kept (fun k e => b.block k (h.from e).2)
theorem RTo.of_below (h : Rh B w r n H) (b : Below w.heap.size w w') : RTo B w r n H w' := ⟨r, rfl, h.below b, Fr.of_below b, fun _ e => Or.inl e⟩
theorem Rh.cell (h : Rh B w r n H) : w.cell? ⟨r.q, 0, none⟩ = some r.rv := by simp [World.cell?, h.top]
theorem Rh.rvOf (h : Rh B w r n H) : ∃ a c, r.rv = .slice a n c ∧ n ≤ c ∧ c ≤ maxLen := by
  have := h.len
  rcases h.row.2 with ⟨e, n0⟩ | ⟨g, cap, cur, e, _, _, c, d, _⟩
  · have hn : n = 0 := by omega
    subst hn
    exact ⟨_, _, e, Nat.le_refl _, Nat.zero_le _⟩
  · exact ⟨_, cap, by rw [e, this], by omega, d⟩
theorem Rh.at (h : Rh B w r n H) {i : Nat} (hi : i < n) : ∃ x, r.P[i]? = some x := by
  have := h.len
  exact ⟨r.P[i], by simp⟩
theorem Rh.pcell (h : Rh B w r n H) {i : Nat} {x : Nat × Value} (hx : r.P[i]? = some x) : ∃ a c, r.rv = .slice (some ⟨a, 0, none⟩) n c ∧ n ≤ c ∧ a < w.heap.size ∧ w.cell? ⟨a, i, none⟩ = some (.pointer (some ⟨x.1, 0, none⟩)) := by
  obtain ⟨a, c, e, h1, _, _, h3, _, h4⟩ := own1_cell h.row (i := i) (u := pptr x) (by simp [hx])
  rw [h.len] at e h1
  exact ⟨a, c, e, h1, h3, h4⟩

/-- A page is changed. -/
theorem Rh.set (h : Rh B w r n H) {i : Nat} {x : Nat × Value} (hx : r.P[i]? = some x) {l' : List Sl} (t : PgTo B w x.1 x.2 l' w') : RTo B w r n (updH H i l') w' := by
  obtain ⟨v', p, f, hn⟩ := t
  have hlt : i < r.P.length := (List.getElem?_eq_some_iff.1 hx).1
  have hnew : ∀ k, footP x.1 v' k → footP x.1 x.2 k ∨ w.heap.size ≤ k := by
    rintro k (rfl | e)
    · exact Or.inl (Or.inl rfl)
    · exact (hn k e).imp Or.inr id
  have hget : ∀ (j : Nat) (y : Nat × Value), (r.P.set i (x.1, v'))[j]? = some y → (j = i ∧ y = (x.1, v')) ∨ (j ≠ i ∧ r.P[j]? = some y) := by
    intro j y hy
    rw [List.getElem?_set] at hy
    split at hy
    · rename_i e
      exact Or.inl ⟨e.symm, (Option.some.inj hy).symm⟩
    · rename_i e
      exact Or.inr ⟨fun z => e z.symm, hy⟩
  have hft : Fr r.ft w w' := ⟨f.os, f.tape, f.output, f.size, fun k hk e => f.block k hk (fun q => e (Or.inr (Or.inr ⟨i, x, hx, q⟩)))⟩
  have hmap : (r.P.set i (x.1, v')).map pptr = r.P.map pptr := by
    rw [List.map_set]
    refine set_self ?_
    rw [List.getElem?_map, hx]
    rfl
  refine ⟨⟨r.q, r.rv, r.P.set i (x.1, v')⟩, rfl, ⟨(f.block _ h.qlt (h.qOff hx)).trans h.top, h.qB, ?_, fun j y hy => ?_, by show (r.P.set i _).length = n; rw [List.length_set]; exact h.len, fun j k y z hy hz hne m hm => ?_⟩, hft, ?_⟩
  · show w'.ownsRow B _ 1 r.rv (r.P.set i (x.1, v')).length ((r.P.set i (x.1, v')).map pptr)
    rw [List.length_set, hmap]
    exact owns_kept h.row (fun k e _ => f.block k (h.row.lt k e).2 (h.rOff hx e))
  · rcases hget j y hy with ⟨rfl, rfl⟩ | ⟨hj, hy'⟩
    · rw [updH_same]; exact p
    · rw [updH_ne _ _ hj]
      have hp := h.pgs j y hy'
      exact hp.kept (fun k e => f.block k (hp.lt k e).2 (fun q => h.ap j i y x hy' hx hj k e q))
  · rcases hget j y hy with ⟨rfl, rfl⟩ | ⟨hj, hy'⟩ <;> rcases hget k z hz with ⟨rfl, rfl⟩ | ⟨hk, hz'⟩
    · exact absurd rfl hne
    · intro q
      rcases hnew m hm with s | s
      · exact h.ap j k x z hx hz' hne m s q
      · have := (h.pgs k z hz').lt m q
        omega
    · intro q
      rcases hnew m q with s | s
      · exact h.ap j k y x hy' hx hne m hm s
      · have := (h.pgs j y hy').lt m hm
        omega
    · exact h.ap j k y z hy' hz' hne m hm
  · rintro k (rfl | e | ⟨j, y, hy, e⟩)
    · exact Or.inl (Or.inl rfl)
    · exact Or.inl (Or.inr (Or.inl e))
    · rcases hget j y hy with ⟨rfl, rfl⟩ | ⟨hj, hy'⟩
      · exact (hnew k e).imp (fun q => Or.inr (Or.inr ⟨j, x, hx, q⟩)) id
      · exact Or.inl (Or.inr (Or.inr ⟨j, y, hy', e⟩))

set_option maxHeartbeats 800000 in
set_option maxRecDepth 100000 in
theorem rpage_in (h : Rh B w r n H) (hn : n ≤ 1000) (k : Int) (i : Nat) (h1 : 128 ≤ k) (h2 : k / 128 = (i : Int)) (hi : i < n) {x : Nat × Value} (hx : r.P[i]? = some x) :
    Calls Tryz.prog 39 #[.pointer (some ⟨r.q, 0, none⟩), .int .i64 k] w fun e w' => e = .returned (.pointer (some ⟨x.1, 0, none⟩)) ∧ w' = w := by
  have c0 := h.cell
  obtain ⟨a, c, e, hc, _, c1⟩ := h.pcell hx
  rw [e] at c0
  have t1 : k.tdiv 128 = (i : Int) := by rw [Int.tdiv_eq_ediv_of_nonneg (by omega)]; exact h2
  have d1 : decide (k < 128) = false := by simp; omega
  have d2 : decide ((n : Int) ≤ (i : Int)) = false := by simp; omega
  have d3 : (i : Int) < (n : Int) := by omega
  have d4 : (i : Int) < 1000 := by omega
  clear h hx e
  go_enter Tryz.func39, Tryz.ntmps39
  go_wp2_with fail
  all_goals go_ret
  all_goals exact ⟨rfl, rfl⟩

set_option maxHeartbeats 800000 in
set_option maxRecDepth 100000 in
theorem rpage_out (h : Rh B w r n H) (hn : n ≤ 1000) (k : Int) (hk6 : -9223372036854775808 ≤ k ∧ k ≤ 9223372036854775807) (hk : ¬ (128 ≤ k ∧ k / 128 < (n : Int))) :
    Calls Tryz.prog 39 #[.pointer (some ⟨r.q, 0, none⟩), .int .i64 k] w fun e w' => e = .returned (.pointer (some ⟨w.heap.size, 0, none⟩)) ∧ w' = w.alloc (.cells #[.slice none 0 0] 70) := by
  have c0 := h.cell
  obtain ⟨a, c, e, hc, _⟩ := h.rvOf
  rw [e] at c0
  clear h e
  by_cases h1 : k < 128
  · have d1 : decide (k < 128) = true := by simpa using h1
    clear hk
    go_enter Tryz.func39, Tryz.ntmps39
    go_wp2_with fail
    all_goals go_ret
    all_goals exact ⟨rfl, rfl⟩
  · have d1 : decide (k < 128) = false := by simpa using h1
    have h2 : (n : Int) ≤ k / 128 := by omega
    have t1 : k.tdiv 128 = k / 128 := Int.tdiv_eq_ediv_of_nonneg (by omega)
    have d2 : decide ((n : Int) ≤ k / 128) = true := by simpa using h2
    have d3 : 0 ≤ k / 128 := by omega
    have d4 : k / 128 ≤ 9223372036854775807 := by omega
    clear hk
    go_enter Tryz.func39, Tryz.ntmps39
    go_wp2_with fail
    all_goals go_ret
    all_goals exact ⟨rfl, rfl⟩

/-- The page of a place, whichever. -/
theorem rpage_any (h : Rh B w r n H) (hn : n ≤ 1000) (hB : B ≤ w.heap.size) (k : Int) (hk6 : -9223372036854775808 ≤ k ∧ k ≤ 9223372036854775807) :
    Calls Tryz.prog 39 #[.pointer (some ⟨r.q, 0, none⟩), .int .i64 k] w fun e w' => ∃ qb v, e = .returned (.pointer (some ⟨qb, 0, none⟩)) ∧ Pgr B w' qb v (pgOf n H k) ∧ Below w.heap.size w w' ∧
      ∀ (l' : List Sl) (w2 : World), PgTo B w' qb v l' w2 → RTo B w r n (if 128 ≤ k ∧ k / 128 < (n : Int) then updH H (k / 128).toNat l' else H) w2 := by
  by_cases hk : 128 ≤ k ∧ k / 128 < (n : Int)
  · obtain ⟨x, hx⟩ := h.at (i := (k / 128).toNat) (by omega)
    have e1 : pgOf n H k = H (k / 128).toNat := by unfold pgOf; rw [if_pos hk]
    refine (rpage_in h hn k (k / 128).toNat hk.1 (by omega) (by omega) hx).mono ?_
    rintro e w' ⟨rfl, rfl⟩
    refine ⟨x.1, x.2, rfl, by rw [e1]; exact h.pgs _ x hx, Below.refl _ _, fun l' w2 t => ?_⟩
    rw [if_pos hk]
    exact h.set hx t
  · have e1 : pgOf n H k = [] := by unfold pgOf; rw [if_neg hk]
    refine (rpage_out h hn k hk6 hk).mono ?_
    rintro e w' ⟨rfl, rfl⟩
    refine ⟨w.heap.size, .slice none 0 0, rfl, ?_, below_alloc1 w _, fun l' w2 t => ?_⟩
    · rw [e1]
      exact ⟨heap_alloc_new w _, ⟨World.ownsRow_nil _ _ _ _⟩, hB, by simp [Value.ownBlock]⟩
    · rw [if_neg hk]
      obtain ⟨v', p, f, hn⟩ := t
      have f2 : Fr (fun k => k = w.heap.size) (w.alloc (.cells #[.slice none 0 0] 70)) w2 := ⟨f.os, f.tape, f.output, f.size, fun j hj e => f.block j hj (by rintro (q | q); exact e q; simp [Value.ownBlock] at q)⟩
      exact RTo.of_below h (f2.below (below_alloc1 w _) (by simp) (fun j e => by omega))

theorem upd_if {l : List Sl} (k : Int) (hl : l = pgOf n H k) : (if 128 ≤ k ∧ k / 128 < (n : Int) then updH H (k / 128).toNat l else H) = H := by
  split
  · rename_i q
    have : pgOf n H k = H (k / 128).toNat := by unfold pgOf; rw [if_pos q]
    rw [hl, this, updH_self]
  · rfl

theorem tmod_ok (k : Int) : i64ok (k.tmod 128) := by
  have h1 : k.tmod 128 < 128 := Int.tmod_lt_of_pos _ (by decide)
  have h2 : -128 < k.tmod 128 := Int.lt_tmod_of_pos k (by decide)
  unfold i64ok
  omega

set_option maxHeartbeats 800000 in
set_option maxRecDepth 100000 in
theorem rdelete_any (h : Rh B w r n H) (hn : n ≤ 1000) (hB : B ≤ w.heap.size) (hF : ∀ i, Fine (H i)) (k : Int) (hk6 : -9223372036854775808 ≤ k ∧ k ≤ 9223372036854775807) :
    Calls Tryz.prog 16 #[.pointer (some ⟨r.q, 0, none⟩), .int .i64 k] w fun e w' => e = .returned (.int .i64 (delHX n H k)) ∧ RTo B w r n (delHH n H k) w' := by
  have cP := rpage_any h hn hB k hk6
  have hFp : Fine (pgOf n H k) := by unfold pgOf; split; exact hF _; exact fine_nil
  have hH : (if 128 ≤ k ∧ k / 128 < (n : Int) then updH H (k / 128).toNat (delN (pgOf n H k) (k.tmod 128)) else H) = delHH n H k := by
    unfold delHH delHX delN
    by_cases q : delE (pgOf n H k) (k.tmod 128) = 0
    · rw [if_pos q, if_pos q]
      split
      · rfl
      · rename_i z
        have : pgOf n H k = [] := by unfold pgOf; rw [if_neg z]
        rw [this, delE_none (rowAt_nil _)] at q
        cases q
    · rw [if_neg q, if_neg q]
      exact upd_if k rfl
  have eX : delHX n H k = delE (pgOf n H k) (k.tmod 128) := rfl
  have hm := tmod_ok k
  have HH := (show Hid _ from hH)
  rw [eX]
  clear h hF hH eX
  generalize hs : k.tmod 128 = s at *
  have hs2 : 0 ≤ k → k % 128 = s := fun q => by rw [← hs, Int.tmod_eq_emod_of_nonneg q]
  go_enter Tryz.func16, Tryz.ntmps16
  go_wp2_with fail
  refine cP.mono ?_
  rintro e w1 ⟨qb, v, rfl, pg1, b1, hK⟩
  have cD := rdel_any pg1 hFp s hm _ rfl
  have HK := (show Hid _ from hK)
  clear cP hK pg1
  go_wp2_with fail
  refine cD.mono ?_
  rintro e w2 ⟨rfl, t⟩
  have HT := (show Hid _ from HK.out _ _ t)
  clear cD t
  go_wp2_with fail
  go_ret
  refine ⟨rfl, ?_⟩
  rw [← HH.out]
  exact HT.out
end
end Go.Proofs.YtjmdenlocmleiaaGreat
end

section
namespace Go.Proofs.YtjmdenlocmleiaaGreat
open Go.RowKit

theorem Tryz.info67 : (Tryz.prog.info? 67).map (fun i => (i.zero, i.size, i.bytes)) = some (some (.pointer none), 1, 8) := by kernel_rfl

section
variable {B : Nat} {w w' : World} {r : RH} {n : Nat} {H : Hp}

theorem RTo.trans {r1 : RH} {H2 : Hp} {w1 w2 : World} (hq : r1.q = r.q) (f : Fr r.ft w w1) (hn : ∀ k, r1.ft k → r.ft k ∨ w.heap.size ≤ k) (t : RTo B w1 r1 n H2 w2) : RTo B w r n H2 w2 := by
  obtain ⟨r2, a, b, c, d⟩ := t
  refine ⟨r2, a.trans hq, b, f.trans c (fun i hi e => (hn i e).resolve_right (by omega)), fun k e => ?_⟩
  rcases d k e with q | q
  · exact hn k q
  · exact Or.inr (Nat.le_trans f.size q)

set_option maxHeartbeats 800000 in
set_option maxRecDepth 100000 in
theorem rput_heap (h : Rh B w r n H) (hn : n ≤ 1000) (hB : B ≤ w.heap.size) (hF : ∀ i, Fine (H i)) (k : Int) (hk6 : -9223372036854775808 ≤ k ∧ k ≤ 9223372036854775807) (row : ByteArray) (hrs : row.size ≤ 1000000) :
    Calls Tryz.prog 14 #[.pointer (some ⟨r.q, 0, none⟩), .int .i64 k, .string row] w fun e w' => e = .returned (.int .i64 (putHX n H k row)) ∧ RTo B w r n (putHH n H k row) w' := by
  have cP := rpage_any h hn hB k hk6
  have hFp : Fine (pgOf n H k) := by unfold pgOf; split; exact hF _; exact fine_nil
  have hH : (if 128 ≤ k ∧ k / 128 < (n : Int) then updH H (k / 128).toNat (putN (pgOf n H k) (k.tmod 128) row) else H) = putHH n H k row := by
    unfold putHH putHX putN
    by_cases q : putE (pgOf n H k) (k.tmod 128) row = 0
    · rw [if_pos q, if_pos q]
      split
      · rfl
      · rename_i z
        have : pgOf n H k = [] := by unfold pgOf; rw [if_neg z]
        rw [this, putE_none (rowAt_nil _)] at q
        cases q
    · rw [if_neg q, if_neg q]
      exact upd_if k rfl
  have eX : putHX n H k row = putE (pgOf n H k) (k.tmod 128) row := rfl
  have hm := tmod_ok k
  have HH := (show Hid _ from hH)
  rw [eX]
  clear h hF hH eX
  generalize hs : k.tmod 128 = s at *
  have hs2 : 0 ≤ k → k % 128 = s := fun q => by rw [← hs, Int.tmod_eq_emod_of_nonneg q]
  go_enter Tryz.func14, Tryz.ntmps14
  go_wp2_with fail
  refine cP.mono ?_
  rintro e w1 ⟨qb, v, rfl, pg1, b1, hK⟩
  have cD := rput_any pg1 hFp s hm row hrs _ rfl
  have HK := (show Hid _ from hK)
  clear cP hK pg1
  go_wp2_with fail
  refine cD.mono ?_
  rintro e w2 ⟨rfl, t⟩
  have HT := (show Hid _ from HK.out _ _ t)
  clear cD t
  go_wp2_with fail
  go_ret
  refine ⟨rfl, ?_⟩
  rw [← HH.out]
  exact HT.out

set_option maxHeartbeats 800000 in
set_option maxRecDepth 100000 in
theorem rget_heap (h : Rh B w r n H) (hn : n ≤ 1000) (hB : B ≤ w.heap.size) (hF : ∀ i, Fine (H i)) (k : Int) (hk6 : -9223372036854775808 ≤ k ∧ k ≤ 9223372036854775807) :
    Calls Tryz.prog 23 #[.pointer (some ⟨r.q, 0, none⟩), .int .i64 k] w fun e w' => e = .returned (.tuple #[.string (getHS n H k), .int .i64 (delHX n H k)]) ∧ Below w.heap.size w w' := by
  have cP := rpage_any h hn hB k hk6
  have hFp : (pgOf n H k).length ≤ 1000 := by
    have : Fine (pgOf n H k) := by unfold pgOf; split; exact hF _; exact fine_nil
    have := few this.room
    omega
  have eX : delHX n H k = delE (pgOf n H k) (k.tmod 128) := rfl
  have eG : getHS n H k = rowOf (rowAt (pgOf n H k) (k.tmod 128)) := rfl
  have hm := tmod_ok k
  rw [eX, eG]
  clear h hF eX eG
  generalize hs : k.tmod 128 = s at *
  have hs2 : 0 ≤ k → k % 128 = s := fun q => by rw [← hs, Int.tmod_eq_emod_of_nonneg q]
  go_enter Tryz.func23, Tryz.ntmps23
  go_wp2_with fail
  refine cP.mono ?_
  rintro e w1 ⟨qb, v, rfl, pg1, b1, hK⟩
  have cD := rget_any pg1 hFp s hm
  clear cP hK pg1
  go_wp2_with fail
  refine cD.mono ?_
  rintro e w2 ⟨rfl, hw2⟩
  rw [hw2]
  clear cD hw2
  go_wp2_with fail
  go_ret2
  exact ⟨rfl, b1⟩

set_option maxHeartbeats 1600000 in
set_option maxRecDepth 100000 in
theorem rins_heap (h : Rh B w r n H) (hB : B ≤ w.heap.size) (hF : ∀ i, Fine (H i)) (hn : 1 ≤ n ∧ n ≤ 1000) (row : ByteArray) (hrs : row.size ≤ 1000000) :
    Calls Tryz.prog 12 #[.pointer (some ⟨r.q, 0, none⟩), .string row] w fun e w' => e = .returned (.tuple #[.int .i64 (insHK n H row), .int .i64 (insHX n H row)]) ∧ RTo B w r n (insHH n H row) w' := by
  by_cases hl : 400 < row.size
  · have hl2 : decide ((400 : Int) < (row.size : Int)) = true := by simp; omega
    have hr : insHK n H row = 0 ∧ insHX n H row = 2 ∧ insHH n H row = H := by
      unfold insHK insHX insHH
      rw [if_pos hl, if_pos hl, if_pos hl]
      exact ⟨rfl, rfl, rfl⟩
    rw [hr.1, hr.2.1, hr.2.2]
    have HT : Hid (RTo B w r n H w) := RTo.of_below h (Below.refl _ _)
    clear hr h hF
    go_enter Tryz.func12, Tryz.ntmps12
    go_wp2_with fail
    go_ret2
    exact ⟨rfl, HT.out⟩
  · have hl2 : decide ((400 : Int) < (row.size : Int)) = false := by simp; omega
    have HF := (show Hid _ from hF)
    have h400 : row.size ≤ 400 := by omega
    clear hF hl
    go_enter Tryz.func12, Tryz.ntmps12
    go_wp2_with fail
    go_loopw [6] (fun si wr => ∃ (i : Nat) (r1 : RH), 1 ≤ i ∧ i ≤ n ∧ si = .int .i64 (i : Int) ∧ Hid (∀ j, 1 ≤ j → j < i → insE (H j) row ≠ 0) ∧ Hid (r1.q = r.q) ∧ Rh B wr r1 n H ∧ Hid (Fr r.ft w wr) ∧ Hid (∀ k, r1.ft k → r.ft k ∨ w.heap.size ≤ k)) (fun si _ => n - (intOf si).toNat)
    case atStart => exact ⟨1, r, Nat.le_refl _, hn.1, rfl, (fun j a b => absurd b (by omega)), rfl, h, Fr.refl _ _, fun k e => Or.inl e⟩
    case round =>
      clear h
      obtain ⟨i, r1, h1, h2, rfl, hj, hq, hr, hf, hnw⟩ := hrel
      have c0 := hr.cell
      rw [hq.out] at c0
      have hBr : B ≤ wr.heap.size := Nat.le_trans hB hf.out.size
      by_cases hlt : i < n
      · obtain ⟨x, hx⟩ := hr.at hlt
        obtain ⟨a, c, e, hc, _, c1⟩ := hr.pcell hx
        rw [e] at c0
        have d1 : decide ((i : Int) < (n : Int)) = true := by simp; omega
        have d2 : (i : Int) < (n : Int) := by omega
        rcases insE_few (H i) row h400 with eI | eI
        · have eR : insR (H i) row = (pg (insL (H i) row), (first (H i) : Int), 0) := by unfold insR; rw [if_pos eI]
          have cI := rins_any (hr.pgs i x hx) hBr (HF.out i) row hrs _ _ _ eR
          have eN : insN (H i) row = insL (H i) row := by unfold insN; rw [if_pos eI]
          rw [eN] at cI
          have hfl : first (H i) ≤ 127 := by
            have := first_le (H i)
            have := few (HF.out i).room
            omega
          have HR : Hid (insHK n H row = 128 * (i : Int) + (first (H i) : Int) ∧ insHX n H row = 0 ∧ insHH n H row = updH H i (insL (H i) row)) := by
            have hlow := low_some (n := n) h1 hlt eI hj.out
            show _ ∧ _ ∧ _
            unfold insHK insHX insHH
            rw [hlow, if_neg (by omega), if_neg (by omega), if_neg (by omega)]
            exact ⟨rfl, rfl, rfl⟩
          have HS : Hid (∀ w2, PgTo B wr x.1 x.2 (insL (H i) row) w2 → RTo B w r n (updH H i (insL (H i) row)) w2) := fun w2 t => RTo.trans hq.out hf.out hnw.out (hr.set hx t)
          clear eI eR eN hr hx e
          go_wp2_with fail
          refine cI.mono ?_
          rintro e w2 ⟨rfl, t⟩
          have HT := (show Hid _ from HS.out _ t)
          clear cI t
          go_wp2_with fail
          go_ret2
          rw [HR.out.1, HR.out.2.1, HR.out.2.2]
          exact ⟨rfl, HT.out⟩
        · have eR : insR (H i) row = (⟨#[]⟩, 0, 50) := by unfold insR; rw [if_neg (by rw [eI]; decide), eI]
          have cI := rins_any (hr.pgs i x hx) hBr (HF.out i) row hrs _ _ _ eR
          have eN : insN (H i) row = H i := by unfold insN; rw [if_neg (by rw [eI]; decide)]
          rw [eN] at cI
          have HJ : Hid (∀ j, 1 ≤ j → j < i + 1 → insE (H j) row ≠ 0) := fun j a b => by
            by_cases e : j = i
            · rw [e, eI]; decide
            · exact hj.out j a (by omega)
          have HS : Hid (∀ w2, PgTo B wr x.1 x.2 (H i) w2 → RTo B w r n H w2) := fun w2 t => by
            have := RTo.trans hq.out hf.out hnw.out (hr.set hx t)
            rw [updH_self] at this
            exact this
          clear eI eR eN hr hx e
          go_wp2_with fail
          refine cI.mono ?_
          rintro e w2 ⟨rfl, t⟩
          obtain ⟨r2, q1, q2, q3, q4⟩ := HS.out _ t
          clear cI t
          go_wp2_with fail
          go_roundw
          case rel => exact ⟨i + 1, r2, by omega, by omega, by go_num, HJ, q1, q2, q3, q4⟩
          case measure => simp [intOf]; omega
      · obtain rfl : i = n := by omega
        obtain ⟨a, c, e, hc, _⟩ := hr.rvOf
        rw [e] at c0
        have HR : Hid (insHK i H row = 0 ∧ insHX i H row = 50 ∧ insHH i H row = H) := by
          have hlow := low_none (n := i) hj.out
          show _ ∧ _ ∧ _
          unfold insHK insHX insHH
          rw [hlow, if_neg (by omega), if_neg (by omega), if_neg (by omega)]
          exact ⟨rfl, rfl, rfl⟩
        have HT : Hid (RTo B w r i H wr) := ⟨r1, hq.out, hr, hf.out, hnw.out⟩
        have d1 : decide ((i : Int) < (i : Int)) = false := by simp
        clear hr e
        go_wp2_with fail
        go_ret2
        rw [HR.out.1, HR.out.2.1, HR.out.2.2]
        exact ⟨rfl, HT.out⟩

/-- append of one page to a row of pages, in a list of operations. -/
theorem wpList_append_pp {ops : Array Oper} {rest : List Oper} {o : Oper} {ac : Act} {Q : Exit → Act → World → Prop} (w : World) (hgd : o.guard = none) (s x : Operand)
    (ho : o.op = .call { callee := .builtin .append, args := #[s, x], argTypes := #[64, 64] })
    (B : Nat) (v : Value) (P : List (Nat × Value)) (hs : ac.eval s = v) (hrow : w.ownsRow B 67 1 v P.length (P.map pptr)) (a : Nat) (y : Nat × Value) (hx : ac.eval x = .slice (some ⟨a, 0, none⟩) 1 1) (h0 : w.cell? ⟨a, 0, none⟩ = some (pptr y)) (hlen : P.length ≤ 5000) (hB : B ≤ w.heap.size)
    (h : ∀ v' w', w'.ownsRow B 67 1 v' (P ++ [y]).length ((P ++ [y]).map pptr) → Fr (fun k => v.ownBlock = some k) w w' → (∀ k, v'.ownBlock = some k → v.ownBlock = some k ∨ w.heap.size ≤ k) → wpList Tryz.prog ops Q rest (ac.put o.dst v') w') : wpList Tryz.prog ops Q (o :: rest) ac w := by
  obtain ⟨i0, hi, hz0, hz1, hz2⟩ := info_parts Tryz.info67
  obtain ⟨v', w', hr, h2, h3, h4⟩ := run_append_own2 (P := Tryz.prog) w B 64 o.type 67 i0 _ 1 8 Tryz.underlying64 hi hz0 hz1 hz2 rfl (by decide) v P.length (P.map pptr) hrow ⟨a, 0, none⟩ 1 1 [pptr y] rfl (by
    intro j u hu
    rw [Addr.add_lit]
    match j, hu with
    | 0, hu => simp at hu; subst hu; exact h0) (by intro u hu; simp at hu; subst hu; rfl) (by unfold maxLen; omega) (by omega) hB
  refine wpList_plain hgd fun K hK => ?_
  unfold Oper.wp execOp
  simp only [ho, resolve, invoke, builtin, Sem.run_bind, Sem.run_pure, Result.andThen_ok, List.map_toArray, List.map_cons, List.map_nil, hs, hx, hr]
  exact hK _ _ (h v' w' (by rw [List.length_append, List.map_append]; exact h2) (Fr.of_grown h3) h4)
end
end Go.Proofs.YtjmdenlocmleiaaGreat
end

section
namespace Go.Proofs.YtjmdenlocmleiaaGreat
open Go.RowKit

section
variable {B : Nat} {w w' : World} {r : RH} {n : Nat} {H : Hp}

set_option maxHeartbeats 1600000 in
set_option maxRecDepth 100000 in
theorem rpages_any (h : Rh B w r n H) (hF : ∀ i, Fine (H i)) (hn : 1 ≤ n ∧ n ≤ 500) :
    Calls Tryz.prog 50 #[.pointer (some ⟨r.q, 0, none⟩)] w fun e w' => ∃ v, e = .returned v ∧ IRow w' w.heap.size v (pagesN n H) ∧ Below w.heap.size w w' := by
  go_enter Tryz.func50, Tryz.ntmps50
  go_wp2_with fail
  go_loopw [3, 4] (fun sl si wr => ∃ i : Nat, 1 ≤ i ∧ i ≤ n ∧ si = .int .i64 (i : Int) ∧ IRow wr w.heap.size sl (pagesN i H) ∧ Below w.heap.size w wr) (fun _ si _ => n - (intOf si).toNat)
  case atStart => exact ⟨1, Nat.le_refl _, hn.1, rfl, irow_nil _ _, Below.refl _ _⟩
  case round =>
    obtain ⟨i, h1, h2, rfl, hrow, hb⟩ := hrel
    have hr := h.below hb
    have c0 := hr.cell
    obtain ⟨ta, tc, rfl, htc, _⟩ := hrow.len
    have hul := pagesN_len H i
    by_cases hlt : i < n
    · obtain ⟨x, hx⟩ := hr.at hlt
      obtain ⟨a, c, e, hc, _, c1⟩ := hr.pcell hx
      rw [e] at c0
      have d1 : decide ((i : Int) < (n : Int)) = true := by simp; omega
      have d2 : (i : Int) < (n : Int) := by omega
      have hlen : (H i).length ≤ 1000 := by have := few (hF i).room; omega
      have cS := rslots_any (hr.pgs i x hx) hlen _ rfl
      have hL := slotsF_nil (hF i).trim 0
      have hst := pagesN_step H i h1
      generalize slotsF (H i) 0 = S at *
      by_cases hq : S.length = 0
      · have hS0 : S = [] := List.eq_nil_of_length_eq_zero hq
        subst hS0
        have HS : Hid (pagesN (i + 1) H = pagesN i H) := by show _ = _; rw [hst, hL.1 rfl]; simp
        clear hst hL hr hx e h hF hq
        generalize hA : pagesN i H = A at *
        go_wp2_with fail
        refine cS.mono ?_
        rintro e w2 ⟨v, rfl, rs, b2⟩
        obtain ⟨sa, sc, rfl, _, _⟩ := rs.len
        clear cS rs
        go_wp2_with fail
        go_roundw
        case rel => exact ⟨i + 1, by omega, by omega, by go_num, by rw [HS.out]; exact hrow.below' b2, below2 hb b2⟩
        case measure => simp [intOf]; omega
      · have he : (H i).isEmpty = false := by
          cases hh : (H i).isEmpty with
          | false => rfl
          | true => exact absurd (hL.2 (by simpa using hh)) hq
        have HS : Hid (pagesN (i + 1) H = pagesN i H ++ [(i : Int)]) := by show _ = _; rw [hst, he]; simp
        have d3 : decide (0 < S.length) = true := by rw [decide_eq_true_iff]; omega
        have d4 : decide (0 < (S.length : Int)) = true := by rw [decide_eq_true_iff]; omega
        have d5 : 0 < S.length := by omega
        clear hst hL hr hx e h hF hq he
        generalize hA : pagesN i H = A at *
        go_wp2_with fail
        refine cS.mono ?_
        rintro e w2 ⟨v, rfl, rs, b2⟩
        obtain ⟨sa, sc, rfl, _, _⟩ := rs.len
        clear cS rs
        have r2 := hrow.below' b2
        have hb2 := below2 hb b2
        have hb3 := below2 hb2 (below_alloc1 w2 (.cells #[.int .i64 (i : Int)] 3))
        have r3 := r2.below' (below_alloc1 w2 (.cells #[.int .i64 (i : Int)] 3))
        go_wp2_with (at_builtin; refine wpList_append_int _ rfl _ _ rfl w.heap.size _ A [(i : Int)] rfl r3 ⟨w2.heap.size, 0, none⟩ 1 (by simp; rfl) (one_src _ _ (by simp)) (by simp; omega) hb3.size ?_; intro v' w' hrow' hfr hnew)
        go_roundw
        case rel => exact ⟨i + 1, by omega, by omega, by go_num, by rw [HS.out]; exact hrow', hfr.below hb3 hb3.size (fun k e => (hrow.blk e).1)⟩
        case measure => simp [intOf]; omega
    · obtain rfl : i = n := by omega
      obtain ⟨a, c, e, hc, _⟩ := hr.rvOf
      rw [e] at c0
      have d1 : decide ((i : Int) < (i : Int)) = false := by simp
      clear hr e h hF
      go_wp2_with fail
      go_ret
      exact ⟨_, rfl, hrow, hb⟩

set_option maxHeartbeats 3200000 in
set_option maxRecDepth 100000 in
theorem rplaces_any (h : Rh B w r n H) (hF : ∀ i, Fine (H i)) (hn : 1 ≤ n ∧ n ≤ 500) :
    Calls Tryz.prog 21 #[.pointer (some ⟨r.q, 0, none⟩)] w fun e w' => ∃ v, e = .returned v ∧ IRow w' w.heap.size v (placesN n H) ∧ Below w.heap.size w w' := by
  have hstep : ∀ i, 1 ≤ i → placesN (i + 1) H = placesN i H ++ (slotsF (H i) 0).map (fun s => 128 * (i : Int) + s) := fun i hi => by
    unfold placesN
    rw [pgsN_succ i hi, List.flatMap_append]
    simp
  have hfew : ∀ i, i ≤ 500 → (placesN i H).length ≤ 127 * i := fun i hi => by
    have key : ∀ L : List Nat, (L.flatMap (fun i => (slotsF (H i) 0).map (fun s => 128 * (i : Int) + s))).length ≤ 127 * L.length := by
      intro L
      induction L with
      | nil => simp
      | cons a L ih =>
        rw [List.flatMap_cons, List.length_append, List.length_cons, List.length_map]
        have := slotsF_len (H a) 0
        have := few (hF a).room
        omega
    have := key (pgsN i)
    have e : (pgsN i).length = i - 1 := by unfold pgsN; rw [List.length_range']
    unfold placesN
    omega
  have HST := (show Hid _ from hstep)
  have HFW := (show Hid _ from hfew)
  have HF := (show Hid _ from hF)
  clear hstep hfew hF
  go_enter Tryz.func21, Tryz.ntmps21
  go_wp2_with fail
  go_loopw [3, 4] (fun sl si wr => ∃ i : Nat, 1 ≤ i ∧ i ≤ n ∧ si = .int .i64 (i : Int) ∧ IRow wr w.heap.size sl (placesN i H) ∧ Below w.heap.size w wr) (fun _ si _ => n - (intOf si).toNat)
  case atStart => exact ⟨1, Nat.le_refl _, hn.1, rfl, irow_nil _ _, Below.refl _ _⟩
  case round =>
    obtain ⟨i, h1, h2, rfl, hrow, hb⟩ := hrel
    have hr := h.below hb
    have c0 := hr.cell
    obtain ⟨ta, tc, rfl, htc, _⟩ := hrow.len
    have hul := HFW.out i (by omega)
    by_cases hlt : i < n
    · obtain ⟨x, hx⟩ := hr.at hlt
      obtain ⟨a, c, e, hc, _, c1⟩ := hr.pcell hx
      rw [e] at c0
      have d1 : decide ((i : Int) < (n : Int)) = true := by simp; omega
      have d2 : (i : Int) < (n : Int) := by omega
      have hf7 := few (HF.out i).room
      have hlen : (H i).length ≤ 1000 := by omega
      have cS := rslots_any (hr.pgs i x hx) hlen _ rfl
      have HS : Hid (placesN (i + 1) H = placesN i H ++ (slotsF (H i) 0).map (fun s => 128 * (i : Int) + s)) := HST.out i h1
      have hsm := slotsF_mem (H i) 0
      have hsl := slotsF_len (H i) 0
      have HM : Hid (∀ x ∈ slotsF (H i) 0, ∃ k : Nat, x = (k : Int) ∧ k < 127) := fun x hx => by
        obtain ⟨k, e, hk⟩ := hsm x hx
        exact ⟨k, e, by omega⟩
      have hS7 : (slotsF (H i) 0).length ≤ 127 := by omega
      clear hr hx e hsm hsl hf7
      generalize slotsF (H i) 0 = S at *
      generalize placesN i H = T at *
      go_wp2_with fail
      refine cS.mono ?_
      rintro e w2 ⟨v, rfl, rs, b2⟩
      obtain ⟨sa, sc, rfl, _, _⟩ := rs.len
      have r2 := hrow.below' b2
      have hb2 := below2 hb b2
      have hoff : Hid (∀ b, (Value.slice ta T.length tc).ownBlock = some b → (Value.slice sa S.length sc).ownBlock ≠ some b) := fun b hb' q => by
        have h1 := (hrow.blk hb').2
        have h2 := (rs.blk q).1
        omega
      clear cS hrow
      go_wp2_with fail
      go_loopw [3, 6] (fun sl sk wr2 => ∃ k : Nat, k ≤ S.length ∧ sk = .int .i64 (k : Int) ∧ IRow wr2 w.heap.size sl (T ++ (S.take k).map (fun s => 128 * (i : Int) + s)) ∧ Below w.heap.size w wr2 ∧ IRow wr2 wr.heap.size (.slice sa S.length sc) S ∧ Hid (∀ b, sl.ownBlock = some b → (Value.slice sa S.length sc).ownBlock ≠ some b)) (fun _ sk _ => S.length - (intOf sk).toNat)
      case atStart => exact ⟨0, Nat.zero_le _, rfl, by simpa using r2, hb2, rs, hoff⟩
      case round =>
        clear r2 rs b2
        obtain ⟨k, hk, rfl, u, ub, rr, ho⟩ := hrel
        by_cases hkl : k < S.length
        · obtain ⟨ua, uc, rfl, _, _⟩ := u.len
          have hkl2 : (k : Int) < (S.length : Int) := by omega
          have hx : S[k]? = some S[k] := by simp [hkl]
          generalize S[k] = x at hx
          obtain ⟨q, rfl, hq⟩ := HM.out x (List.mem_of_getElem? hx)
          obtain ⟨sb, sc', e, _, _, hsb, cs⟩ := rr.cell hx
          cases e
          have hst : (S.take (k + 1)).map (fun s => 128 * (i : Int) + s) = (S.take k).map (fun s => 128 * (i : Int) + s) ++ [128 * (i : Int) + (q : Int)] := by
            rw [List.take_add_one, hx, List.map_append]
            rfl
          have HSt : Hid (T ++ (S.take (k + 1)).map (fun s => 128 * (i : Int) + s) = (T ++ (S.take k).map (fun s => 128 * (i : Int) + s)) ++ [128 * (i : Int) + (q : Int)]) := by show _ = _; rw [hst, List.append_assoc]
          have hul2 : (T ++ (S.take k).map (fun s => 128 * (i : Int) + s)).length ≤ 90000 := by
            rw [List.length_append, List.length_map, List.length_take]
            omega
          clear hst hx
          generalize T ++ (S.take k).map (fun s => 128 * (i : Int) + s) = U at *
          have u2 := u.below' (below_alloc1 wr (.cells #[.int .i64 (128 * (i : Int) + (q : Int))] 3))
          have rr2 := rr.below' (below_alloc1 wr (.cells #[.int .i64 (128 * (i : Int) + (q : Int))] 3))
          have ub2 := below2 ub (below_alloc1 wr (.cells #[.int .i64 (128 * (i : Int) + (q : Int))] 3))
          go_wp2_with (at_builtin; refine wpList_append_int _ rfl _ _ rfl w.heap.size _ U [128 * (i : Int) + (q : Int)] rfl u2 ⟨wr.heap.size, 0, none⟩ 1 (by simp; rfl) (one_src _ _ (by simp)) (by simp; omega) ub2.size ?_; intro v' w' hrow' hfr hnew)
          go_roundw
          case rel =>
            refine ⟨k + 1, by omega, by go_num, by rw [HSt.out]; exact hrow', hfr.below ub2 ub2.size (fun k e => (u.blk e).1), rr2.kept (fun b hb => hfr.block b (rr2.blk hb).2 (fun e => ho.out b e hb)), fun b hb hc => ?_⟩
            rcases hnew b hb with z1 | z1
            · exact ho.out b z1 hc
            · have := (rr2.blk hc).2
              omega
          case measure => simp [intOf]; omega
        · obtain rfl : k = S.length := by omega
          rw [List.take_length] at u
          rw [← HS.out] at u
          obtain ⟨ua, uc, rfl, _, _⟩ := u.len
          have hkl2 : decide ((S.length : Int) < (S.length : Int)) = false := by simp
          go_wp2_with fail
          go_roundw
          case rel => exact ⟨i + 1, by omega, by omega, by go_num, u, ub⟩
          case measure => simp [intOf]; omega
    · obtain rfl : i = n := by omega
      obtain ⟨a, c, e, hc, _⟩ := hr.rvOf
      rw [e] at c0
      have d1 : decide ((i : Int) < (i : Int)) = false := by simp
      clear hr e h
      go_wp2_with fail
      go_ret
      exact ⟨_, rfl, hrow, hb⟩
end
end Go.Proofs.YtjmdenlocmleiaaGreat
end

section
namespace Go.Proofs.YtjmdenlocmleiaaGreat
open Go.RowKit

theorem own_slice {w : World} {B T n : Nat} {v : Value} {xs : List Value} (h : w.ownsRow B T 1 v n xs) : ∃ (a : Option Addr) (c m : Nat), v = .slice a m c := by
  rcases h.2 with ⟨e, _⟩ | ⟨g, cap, cur, e, _⟩
  · exact ⟨_, _, _, e⟩
  · exact ⟨_, _, _, e⟩

section
variable {B : Nat} {w w' : World} {r : RH} {n : Nat} {H : Hp}

/-- A page more. -/
theorem Rh.more (h : Rh B w r n (fun _ => [])) (hB : B ≤ w.heap.size) {v' : Value} {wx : World} (o : Obj)
    (hrow : wx.ownsRow B 67 1 v' (r.P ++ [(w.heap.size, Value.slice none 0 0)]).length ((r.P ++ [(w.heap.size, Value.slice none 0 0)]).map pptr))
    (hf : Fr (fun k => r.rv.ownBlock = some k) ((w.alloc (.cells #[.slice none 0 0] 70)).alloc o) wx) (hn : ∀ k, v'.ownBlock = some k → r.rv.ownBlock = some k ∨ w.heap.size + 2 ≤ k) :
    Rh B (wx.setCell ⟨r.q, 0, none⟩ v') ⟨r.q, v', r.P ++ [(w.heap.size, .slice none 0 0)]⟩ (n + 1) (fun _ => []) := by
  have hs2 : ((w.alloc (.cells #[.slice none 0 0] 70)).alloc o).heap.size = w.heap.size + 2 := by simp
  have old : ∀ k, k < w.heap.size → ((w.alloc (.cells #[.slice none 0 0] 70)).alloc o).heap[k]? = w.heap[k]? := fun k hk => by
    rw [Below.heap_alloc _ _ _ (by simp; omega), Below.heap_alloc _ _ _ hk]
  have kept : ∀ k, k < w.heap.size → r.rv.ownBlock ≠ some k → wx.heap[k]? = w.heap[k]? := fun k hk e => by
    rw [hf.block k (by rw [hs2]; omega) e, old k hk]
  have hqx : wx.heap[r.q]? = some (.cells #[r.rv] 66 (0, 0)) := by
    rw [kept _ h.qlt (fun e => by
      have := own_tag h.row e
      rw [h.top] at this
      simp [tagOf] at this)]
    exact h.top
  have hnb : wx.heap[w.heap.size]? = some (.cells #[.slice none 0 0] 70 (0, 0)) := by
    rw [hf.block _ (by rw [hs2]; omega) (fun e => by have := (h.row.lt _ e).2; omega), Below.heap_alloc _ _ _ (by simp)]
    exact heap_alloc_new w _
  have hne : ∀ k, k ≠ r.q → (wx.setCell ⟨r.q, 0, none⟩ v').heap[k]? = wx.heap[k]? := fun k hk => Below.heap_setCell _ _ _ _ hk
  have hv'q : v'.ownBlock ≠ some r.q := fun e => by
    rcases hn _ e with q | q
    · have := own_tag h.row q
      rw [h.top] at this
      simp [tagOf] at this
    · have := h.qlt
      omega
  have hlen := h.len
  have hget : ∀ (j : Nat) (y : Nat × Value), (r.P ++ [(w.heap.size, Value.slice none 0 0)])[j]? = some y → r.P[j]? = some y ∨ (j = n ∧ y = (w.heap.size, .slice none 0 0)) := by
    intro j y hy
    rcases Nat.lt_or_ge j n with q | q
    · rw [List.getElem?_append_left (by omega)] at hy
      exact Or.inl hy
    · have hj : j = n := by
        have := (List.getElem?_eq_some_iff.1 hy).1
        simp at this
        omega
      subst hj
      rw [List.getElem?_append_right (by omega), hlen, Nat.sub_self] at hy
      exact Or.inr ⟨rfl, (Option.some.inj hy).symm⟩
  have hfoot : ∀ k, footP w.heap.size (Value.slice none 0 0) k → k = w.heap.size := by
    rintro k (e | e)
    · exact e
    · simp [Value.ownBlock] at e
  refine ⟨heap_setCell_same wx r.q 0 #[r.rv] _ v' hqx, h.qB, owns_kept hrow (fun k e _ => hne k (fun z => hv'q (by rw [← z]; exact e))), fun j y hy => ?_, by show (r.P ++ [_]).length = n + 1; rw [List.length_append, hlen]; rfl, fun j k y z hy hz hjk m hm => ?_⟩
  · rcases hget j y hy with q | ⟨rfl, rfl⟩
    · have hp := h.pgs j y q
      refine hp.kept (fun m hm => ?_)
      rw [hne m (fun e => h.qOff q (e ▸ hm)), kept m (hp.lt m hm).2 (fun e => h.rOff q e hm)]
    · refine ⟨(hne _ (fun e => by have := h.qlt; omega)).trans hnb, ⟨World.ownsRow_nil _ _ _ _⟩, hB, by simp [Value.ownBlock]⟩
  · rcases hget j y hy with q | ⟨rfl, rfl⟩ <;> rcases hget k z hz with q' | ⟨rfl, rfl⟩
    · exact h.ap j k y z q q' hjk m hm
    · intro q2
      have := hfoot m q2
      have := ((h.pgs j y q).lt m hm).2
      omega
    · intro q2
      have := hfoot m hm
      have := ((h.pgs k z q').lt m q2).2
      omega
    · exact absurd rfl hjk

set_option maxHeartbeats 1600000 in
set_option maxRecDepth 100000 in
theorem rnew_heap (n : Nat) (hn : n ≤ 1000) (w : World) :
    Calls Tryz.prog 8 #[.int .i64 (n : Int)] w fun e w' => ∃ r : RH, e = .returned (.pointer (some ⟨r.q, 0, none⟩)) ∧ Rh w.heap.size w' r n (fun _ => []) ∧ Below w.heap.size w w' := by
  go_enter Tryz.func8, Tryz.ntmps8
  go_wp2_with fail
  go_loopw [4] (fun si wr => ∃ (i : Nat) (r : RH), i ≤ n ∧ si = .int .i64 (i : Int) ∧ r.q = w.heap.size ∧ Rh w.heap.size wr r i (fun _ => []) ∧ Below w.heap.size w wr) (fun si _ => n - (intOf si).toNat)
  case atStart => exact ⟨0, ⟨w.heap.size, .slice none 0 0, []⟩, Nat.zero_le _, rfl, rfl, ⟨heap_alloc_new w _, Nat.le_refl _, World.ownsRow_nil _ _ _ _, fun i x hx => by simp at hx, rfl, fun i j x y hx => by simp at hx⟩, below_alloc1 w _⟩
  case round =>
    obtain ⟨i, r, hi, rfl, hq, hr, hb⟩ := hrel
    have c0 := hr.cell
    rw [hq] at c0
    by_cases hlt : i < n
    · have d1 : decide ((i : Int) < (n : Int)) = true := by simp; omega
      have d2 : decide ((i : Int) < 4096) = true := by simp; omega
      obtain ⟨a, c, e, hc, _⟩ := hr.rvOf
      have hlen := hr.len
      have R := (show Hid _ from hr)
      have f0 : wr.frozen? ⟨w.heap.size, 0, none⟩ = false := by rw [← hq]; exact frozen_of_row wr r.q 0 _ _ hr.top
      have HQ := (show Hid _ from hq)
      have hq1 : w.heap.size < wr.heap.size := by rw [← hq]; exact hr.qlt
      have hrow2 : ((wr.alloc (.cells #[.slice none 0 0] 70)).alloc (.cells #[.pointer (some ⟨wr.heap.size, 0, none⟩)] 67)).ownsRow w.heap.size 67 1 r.rv r.P.length (r.P.map pptr) := (hr.row.alloc _).alloc _
      have HE := (show Hid _ from e)
      have hqn : Hid (∀ k, (Value.slice a i c).ownBlock = some k → k ≠ w.heap.size) := fun k hk z => by
        have h1 := own_tag hr.row (by rw [e]; exact hk)
        rw [z, ← hq, hr.top] at h1
        simp [tagOf] at h1
      have hlt2 : Hid (w.heap.size < ((wr.alloc (.cells #[.slice none 0 0] 70)).alloc (.cells #[.pointer (some ⟨wr.heap.size, 0, none⟩)] 67)).heap.size) := Nat.lt_of_lt_of_le hq1 (Nat.le_trans (below_alloc1 wr _).size (below_alloc1 _ _).size)
      have hold : Hid (((wr.alloc (.cells #[.slice none 0 0] 70)).alloc (.cells #[.pointer (some ⟨wr.heap.size, 0, none⟩)] 67)).heap[w.heap.size]? = some (.cells #[.slice a i c] 66 (0, 0))) := by
        show _ = _
        rw [Below.heap_alloc _ _ _ (by simp; omega), Below.heap_alloc _ _ _ hq1, ← hq, hr.top, e]
      rw [e] at hrow2 c0
      clear hr hq e
      go_wp2_with (at_builtin; (refine wpList_append_pp _ rfl (.tmp 20) (.tmp 23) rfl w.heap.size (.slice a i c) r.P rfl hrow2 (wr.heap.size + 1) (wr.heap.size, .slice none 0 0) rfl (by simp [pptr]) (by omega) (Nat.le_of_lt hlt2.out) ?_; intro v' w' hrow' hfr hnew; obtain ⟨a', c', n', rfl⟩ := own_slice hrow'; have hx : w'.heap[w.heap.size]? = some (.cells #[.slice a i c] 66 (0, 0)) := (hfr.block _ hlt2.out (fun q => hqn.out _ q rfl)).trans hold.out; have x0 : w'.cell? ⟨w.heap.size, 0, none⟩ = some (.slice a i c) := (by simp [World.cell?, hx]); have x1 : w'.frozen? ⟨w.heap.size, 0, none⟩ = false := (by simp [World.frozen?, hx])))
      go_roundw
      case rel =>
        have hfr2 := hfr
        rw [← HE.out] at hfr2
        have m := R.out.more (by omega) _ hrow' hfr2 (fun k hk => by
          rcases hnew k hk with q | q
          · rw [HE.out]; exact Or.inl q
          · simp at q; exact Or.inr (by omega))
        rw [HQ.out] at m
        refine ⟨i + 1, _, by omega, by go_num, rfl, m, ?_⟩
        have b3 := below2 hb (below2 (below_alloc1 wr (.cells #[.slice none 0 0] 70)) (below_alloc1 _ (.cells #[.pointer (some ⟨wr.heap.size, 0, none⟩)] 67)))
        exact (hfr.below b3 b3.size (fun k e => (hrow2.lt k e).1)).setCell (Nat.le_refl _) _
      case measure => simp [intOf]; omega
    · obtain rfl : i = n := by omega
      have d1 : decide ((i : Int) < (i : Int)) = false := by simp
      have HR : Hid (Rh w.heap.size wr r i (fun _ => [])) := hr
      have HQ := (show Hid _ from hq)
      clear hr hq
      go_wp2_with fail
      go_ret
      exact ⟨r, by rw [HQ.out]; rfl, HR.out, hb⟩
end
end Go.Proofs.YtjmdenlocmleiaaGreat
end

section
namespace Go.Proofs.YtjmdenlocmleiaaGreat
open Go.RowKit Go.ChangeShapes Go.WideShapes Go.ChangeAt Go.Deep
open Go.ChangeMaps (open_string shut_string)

theorem Tryz.cellsInt : Tryz.prog.cellsOf 3 = 1 := by kernel_rfl
theorem Tryz.cellsStr : Tryz.prog.cellsOf 9 = 1 := by kernel_rfl
theorem Tryz.cellsStep : Tryz.prog.cellsOf 34 = 3 := by kernel_rfl

def i64B (x : Int) : Prop := -9223372036854775808 ≤ x ∧ x ≤ 9223372036854775807

/-- A list in memory, each element some cells; an empty one anywhere. -/
def SlG {α : Type} (W : World) (a : Option Addr) (s : Nat) (cells : α → List Value) (L : List α) : Prop :=
  L = [] ∨ ∃ b off, a = some ⟨b, off, none⟩ ∧ b < W.heap.size ∧ ∀ i p, L[i]? = some p → ∀ j u, (cells p)[j]? = some u → W.cell? ⟨b, off + i * s + j, none⟩ = some u

theorem SlG.kept {α : Type} {W W' : World} {a : Option Addr} {s : Nat} {cells : α → List Value} {L : List α} (h : SlG W a s cells L) (hb : Below W.heap.size W W') : SlG W' a s cells L := by
  rcases h with h | ⟨b, off, e, hlt, hr⟩
  · exact Or.inl h
  · exact Or.inr ⟨b, off, e, by have := hb.size; omega, fun i p hp j u hu => (hb.cell (p := ⟨b, _, none⟩) hlt).trans (hr i p hp j u hu)⟩

section
variable {H : Type} {enc : TypeId × Value → H} {W : World} {base : Nat}

theorem trod_list {α : Type} (dflt : α) (t e s : Nat) (ht : Tryz.prog.underlying t = some (.slice e)) (hs : Tryz.prog.cellsOf e = s) (hs0 : 0 < s) (cells : α → List Value) (ok : α → Prop) (hcl : ∀ p, (cells p).length = s)
    (helem : ∀ (fuel : Nat) (cs : List Value) (x : DataW H × List MemPlace), DataW.trod enc Tryz.prog W 0 (fun _ => true) true fuel e cs = some x → ∃ p, cs = cells p ∧ ok p)
    {fuel : Nat} {cs : List Value} {x : DataW H × List MemPlace} (h : DataW.trod enc Tryz.prog W 0 (fun _ => true) true fuel t cs = some x) :
    ∃ (a : Option Addr) (L : List α) (cap : Nat), cs = [.slice a L.length cap] ∧ SlG W a s cells L ∧ (a = none → cap = 0) ∧ L.length ≤ cap ∧ cap ≤ maxLen ∧ ∀ p ∈ L, ok p := by
  rcases open_slice ht h with ⟨hcs, _⟩ | ⟨a, l, c, m, n, D, Pl, hcs, _, hl, hm, hmm, _, hx⟩
  · exact ⟨none, [], 0, hcs, Or.inl rfl, fun _ => rfl, Nat.le_refl _, Nat.zero_le _, by simp⟩
  · have hml : l ≤ m := by rw [hmm]; split <;> omega
    rw [hs] at hx
    have inst : Inhabited α := ⟨dflt⟩
    obtain ⟨f, hfn⟩ := choose_lt (α := α) (n := l) (p := fun i p => W.cells? 0 (a.add (i * s)) s = some (cells p) ∧ ok p) (fun i hi => by
      obtain ⟨cs', h1, h2⟩ := hx i (by omega)
      obtain ⟨p, rfl, hp⟩ := helem _ _ _ h2
      exact ⟨p, h1, hp⟩)
    have hlen : ((List.range l).map f).length = l := by simp
    refine ⟨some a, (List.range l).map f, c, by rw [hlen]; exact hcs, ?_, (fun h => by cases h), by rw [hlen]; omega, by omega, ?_⟩
    · by_cases h0 : l = 0
      · subst h0; exact Or.inl rfl
      · right
        obtain ⟨b, off, spot⟩ := a
        have hc0 : ∃ u, W.cell? (⟨b, off, spot⟩ : Addr) = some u := by
          have := (World.cells?_some (hfn 0 (by omega)).1).2.2 0 hs0
          rw [Nat.zero_mul] at this
          have h2 : ∃ u, (cells (f 0))[0]? = some u := ⟨_, List.getElem?_eq_getElem (by rw [hcl]; exact hs0)⟩
          obtain ⟨u, hu⟩ := h2
          rw [hu] at this
          exact ⟨u, by simpa [Addr.add] using this⟩
        obtain ⟨u0, hu0⟩ := hc0
        have hspot : spot = none := by simpa using World.cell?_spot hu0
        subst hspot
        refine ⟨b, off, rfl, World.block_lt_of_cell? W _ hu0, ?_⟩
        intro i p hp j u hu
        have hi : i < l := by
          have := (List.getElem?_eq_some_iff.1 hp).1
          simpa using this
        have hpe : p = f i := by
          simp [hi] at hp
          exact hp.symm
        subst hpe
        have hj : j < s := by rw [← hcl (f i)]; exact (List.getElem?_eq_some_iff.1 hu).1
        have e0 := (World.cells?_some (hfn i hi).1).2.2 j hj
        rw [Addr.add_lit, Addr.add_lit, hu] at e0
        exact e0
    · intro p hp
      simp only [List.mem_map, List.mem_range] at hp
      obtain ⟨i, hi, rfl⟩ := hp
      exact (hfn i hi).2


theorem trod_str {fuel : Nat} {cs : List Value} {x : DataW H × List MemPlace} (h : DataW.trod enc Tryz.prog W 0 (fun _ => true) true fuel 9 cs = some x) : ∃ s : ByteArray, cs = [.string s] ∧ s.size ≤ maxLen := by
  obtain ⟨s, e, _, hs⟩ := DataW.trod_string Tryz.underlying9 h
  exact ⟨s, e, hs⟩


/-- A step. -/
structure Hp1 where
  kind : Int
  place : Int
  row : ByteArray
structure Hp1.ok (s : Hp1) : Prop where
  kB : i64B s.kind
  pB : i64B s.place
  rB : s.row.size ≤ maxLen
def Hp1.cells (s : Hp1) : List Value := [.int .i64 s.kind, .int .i64 s.place, .string s.row]

set_option maxRecDepth 100000 in
theorem trod_step {fuel : Nat} {cs : List Value} {x : DataW H × List MemPlace} (h : DataW.trod enc Tryz.prog W 0 (fun _ => true) true fuel 34 cs = some x) : ∃ s : Hp1, cs = s.cells ∧ s.ok := by
  obtain ⟨y0, y1, y2, n, _, hl, h0, h1, h2⟩ := trod_struct3 Tryz.underlying34 h
  rw [Tryz.cellsStep] at hl
  match cs, hl with
  | [a, b, c], _ =>
    obtain ⟨k, e0, _, w0⟩ := DataW.trod_int (t := 3) Tryz.underlying3 h0
    obtain ⟨k1, e1, _, w1⟩ := DataW.trod_int (t := 3) Tryz.underlying3 h1
    obtain ⟨k2, e2, w2⟩ := trod_str h2
    simp [Tryz.cellsInt, Tryz.cellsStr] at e0 e1 e2
    subst e0 e1 e2
    exact ⟨⟨k, k1, k2⟩, rfl, bounds_i64 w0, bounds_i64 w1, w2⟩

set_option maxRecDepth 100000 in
theorem open_steps {v : Value} {d : DataW H} {ps : List MemPlace} (hv : Value.okWide Tryz.prog W .any base 22 v) (h : DataW.Trod enc Tryz.prog W 0 (fun _ => true) true 22 v d ps) :
    ∃ (a : Option Addr) (L : List Hp1) (cap : Nat), v = .slice a L.length cap ∧ SlG W a 3 Hp1.cells L ∧ L.length ≤ cap ∧ cap ≤ maxLen ∧ ∀ s ∈ L, s.ok := by
  obtain ⟨a0, len, cap, rfl⟩ := okWide_slice Tryz.underlying22 hv
  obtain ⟨fuel, hf⟩ := h
  obtain ⟨a, L, c, hcs, r1, _, r3, r4, r5⟩ := trod_list (α := Hp1) ⟨0, 0, ⟨#[]⟩⟩ 22 34 3 Tryz.underlying22 Tryz.cellsStep (by decide) Hp1.cells Hp1.ok (fun _ => rfl) (fun fuel cs x h => trod_step h) hf
  simp [Value.cells] at hcs
  obtain ⟨rfl, rfl, rfl⟩ := hcs
  exact ⟨_, _, _, rfl, r1, r3, r4, r5⟩
end
end Go.Proofs.YtjmdenlocmleiaaGreat
end

section
namespace Go.Proofs.YtjmdenlocmleiaaGreat
open Go.RowKit

section
variable {W w w' : World} {hb p g bd n m : Nat} {V : Nat → ByteArray} {H : Hp} {A : List Nat} {z : Prop} {E E' : List (Nat × Obj)}

theorem Hs.evict (h : Hs W w hb p g bd n m V A z E) (hbd : bd ≤ 80000) (k : Int) (h1 : -9223372036854775808 ≤ k) (h2 : k ≤ 9223372036854775807) :
    Calls Tryz.prog 17 #[.pointer (some ⟨p, 0, none⟩), .int .i64 k] w fun e w' => ∃ X, e = .returned (.int .i64 X) ∧ Hs W w' hb p g (bd + 1) n m V A z E := by
  obtain ⟨S, a, b, rfl, rfl, hz⟩ := h.ex
  refine (a.evict hbd k h1 h2).mono ?_
  rintro e w' ⟨rfl, q⟩
  obtain ⟨t, r⟩ := b.evict a.ok k
  exact ⟨_, rfl, ⟨_, q, r, t.dn, t.n, fun y => t.nx (hz y)⟩⟩

/-- A heap whose pages are all on the device. -/
structure Hf (W w : World) (hb p g bd n m : Nat) (V : Nat → ByteArray) (A : List Nat) (z : Prop) (E : List (Nat × Obj)) : Prop where
  ex : ∃ S, Q1 W w p g bd S ((hb, hobj p) :: E) ∧ Hv S V A ∧ S.D.n = n ∧ S.n = m ∧ (z → S.D.next ≤ 0) ∧ ∀ j, j < n → S.D.seen j = V j
theorem Hf.hs (h : Hf W w hb p g bd n m V A z E) : Hs W w hb p g bd n m V A z E := by
  obtain ⟨S, a, b, c, d, e, _⟩ := h.ex
  exact ⟨S, a, b, c, d, e⟩

theorem Hs.flush (h : Hs W w hb p g bd n m V A z E) (hz : z) (hbd : bd ≤ 80000) :
    Calls Tryz.prog 18 #[.pointer (some ⟨p, 0, none⟩)] w fun e w' => e = .returned (.int .i64 0) ∧ Hf W w' hb p g (bd + 66) n m V A z E := by
  obtain ⟨S, a, b, rfl, rfl, hy⟩ := h.ex
  refine (a.flush hbd).mono ?_
  rintro e w' ⟨rfl, q⟩
  obtain ⟨r1, t, r2, r3⟩ := b.flush a.ok (hy hz)
  exact ⟨by rw [r1], ⟨_, q, r2, t.dn, t.n, fun y => t.nx (hy y), r3⟩⟩

theorem Hf.read (h : Hf W w hb p g bd n m V A z E) (i : Nat) (hi : i < n) :
    Calls Tryz.prog 26 #[.pointer (some ⟨g, 0, none⟩), .int .i64 (i : Int)] w fun e w' => e = .returned (.tuple #[.string (V i), .int .i64 0]) ∧ Hf W w' hb p g bd n m V A z E := by
  obtain ⟨S, a, b, rfl, rfl, hy, hs⟩ := h.ex
  refine (a.readUp i hi (by have := b.up; omega)).mono ?_
  rintro e w' ⟨rfl, q⟩
  exact ⟨by rw [hs i hi], ⟨S, q, b, rfl, rfl, hy, hs⟩⟩

/-- A heap made anew over the same pool. -/
theorem Hs.renew (h : Hs W w hb p g bd n m V A z E) : Hs W (w.alloc (hobj p)) w.heap.size p g bd n m V A z E := by
  obtain ⟨S, a, r⟩ := h.ex
  exact ⟨S, (a.alloc (hobj p)).less (fun y hy => (List.mem_cons.1 hy).elim (fun e => by rw [e]; simp) (fun q => by simp [q])), r⟩

def fairB (L : List Hp1) : Bool := decide (L.length ≤ 100) && L.all (fun s => decide (s.row.size ≤ 2000))

set_option maxHeartbeats 800000 in
set_option maxRecDepth 100000 in
theorem fair_any (a0 : Option Addr) (L : List Hp1) (c : Nat) (w : World) (hL : SlG w a0 3 Hp1.cells L) (hlen : L.length ≤ maxLen) :
    Calls Tryz.prog 9 #[.slice a0 L.length c] w fun e w' => e = .returned (.bool (fairB L)) ∧ w' = w := by
  have hlen2 : L.length ≤ 9223372036854775807 := by unfold maxLen at hlen; omega
  go_enter Tryz.func9, Tryz.ntmps9
  go_wp2_with fail
  go_loopw [3] (fun si wr => ∃ i : Nat, i ≤ L.length ∧ si = .int .i64 (i : Int) ∧ Hid (wr = w) ∧ Hid (∀ s ∈ L.take i, s.row.size ≤ 2000)) (fun si _ => L.length - (intOf si).toNat)
  case atStart => exact ⟨0, Nat.zero_le _, rfl, rfl, fun s hs => by simp at hs⟩
  case round =>
    obtain ⟨i, hi, rfl, hwr, hall⟩ := hrel
    rw [hwr.out]
    clear hwr
    by_cases hlt : i < L.length
    · have hlt2 : (i : Int) < (L.length : Int) := by omega
      have hx : L[i]? = some L[i] := by simp [hlt]
      generalize L[i] = s at hx
      rcases hL with hL | ⟨b, off, rfl, hlb, hcell⟩
      · rw [hL] at hlt; simp at hlt
      have r2 : w.cell? ⟨b, off + i * 3 + 2, none⟩ = some (.string s.row) := hcell i s hx 2 _ rfl
      clear hcell
      by_cases hr : s.row.size ≤ 2000
      · have hr2 : decide ((2000 : Int) < (s.row.size : Int)) = false := by simp; omega
        have HA : Hid (∀ s ∈ L.take (i + 1), s.row.size ≤ 2000) := fun t ht => by
          rw [List.take_add_one, hx] at ht
          rcases List.mem_append.1 ht with q | q
          · exact hall.out t q
          · simp at q; rw [q]; exact hr
        clear hr hx
        go_wp2_with fail
        go_roundw
        case rel => exact ⟨i + 1, by omega, by go_num, True.intro, HA⟩
        case measure => simp [intOf]; omega
      · have hr2 : decide ((2000 : Int) < (s.row.size : Int)) = true := by simp; omega
        have hf : fairB L = false := by
          unfold fairB
          rw [Bool.and_eq_false_iff]
          refine Or.inr ?_
          rw [List.all_eq_false]
          exact ⟨s, List.mem_of_getElem? hx, by simpa using hr⟩
        have HB := (show Hid _ from hf)
        clear hr hx hf
        go_wp2_with fail
        go_ret
        exact ⟨by rw [HB.out]; rfl, rfl⟩
    · obtain rfl : i = L.length := by omega
      rw [List.take_length] at hall
      have hf : fairB L = decide ((L.length : Int) ≤ 100) := by
        unfold fairB
        have : L.all (fun s => decide (s.row.size ≤ 2000)) = true := by
          rw [List.all_eq_true]
          exact fun s hs => by simpa using hall.out s hs
        rw [this, Bool.and_true]
        simp
        omega
      have HB := (show Hid _ from hf)
      clear hf
      go_wp2_with fail
      go_ret
      exact ⟨by rw [HB.out]; rfl, rfl⟩
theorem fair_of {L : List Hp1} (h : fairB L = true) : L.length ≤ 100 ∧ ∀ s ∈ L, s.row.size ≤ 2000 := by
  unfold fairB at h
  rw [Bool.and_eq_true, List.all_eq_true] at h
  exact ⟨by simpa using h.1, fun s hs => by simpa using h.2 s hs⟩
end
end Go.Proofs.YtjmdenlocmleiaaGreat
end

section
namespace Go.Proofs.YtjmdenlocmleiaaGreat
open Go.RowKit

def Same (G : Nat → Prop) (w w' : World) : Prop := ∀ k, G k → w'.heap[k]? = w.heap[k]?

theorem cover (w : World) (F : Nat → Prop) : ∀ N, N ≤ w.heap.size → ∃ E : List (Nat × Obj), (∀ y ∈ E, w.heap[y.1]? = some y.2 ∧ F y.1) ∧ ∀ k, k < N → F k → ∃ o, (k, o) ∈ E := by
  intro N
  induction N with
  | zero => intro _; exact ⟨[], (fun y hy => by cases hy), fun k hk => absurd hk (Nat.not_lt_zero _)⟩
  | succ N ih =>
    intro hN
    obtain ⟨E, h1, h2⟩ := ih (by omega)
    by_cases q : F N
    · refine ⟨(N, w.heap[N]) :: E, fun y hy => ?_, fun k hk hF => ?_⟩
      · rcases List.mem_cons.1 hy with e | z
        · rw [e]; exact ⟨Array.getElem?_eq_getElem (by omega), q⟩
        · exact h1 y z
      · by_cases e : k = N
        · exact ⟨w.heap[N], by rw [e]; simp⟩
        · obtain ⟨o, ho⟩ := h2 k (by omega) hF
          exact ⟨o, List.mem_cons_of_mem _ ho⟩
    · exact ⟨E, h1, fun k hk hF => h2 k (by rcases Nat.lt_or_ge k N with z | z; exact z; exact absurd (by rw [show N = k by omega]; exact hF) q) hF⟩

section
variable {W w w' : World} {hb p g bd n m : Nat} {V : Nat → ByteArray} {H Hr : Hp} {A : List Nat} {z : Prop} {E E' : List (Nat × Obj)} {r : RH} {G : Nat → Prop}

theorem Rh.tags {B : Nat} (h : Rh B w r n H) {k : Nat} (hk : r.ft k) : tagOf w.heap[k]? = some 66 ∨ tagOf w.heap[k]? = some 67 ∨ tagOf w.heap[k]? = some 70 ∨ tagOf w.heap[k]? = some 122 := by
  rcases hk with rfl | hk | ⟨i, x, hx, hk⟩
  · rw [h.top]; exact Or.inl rfl
  · exact Or.inr (Or.inl (own_tag h.row hk))
  · exact Or.inr (Or.inr ((h.pgs i x hx).tag hk))

/-- A heap (rows H) and the document's (rows Hr); the blocks of G are others'. -/
structure Du (W w : World) (hb p g bd n m : Nat) (V : Nat → ByteArray) (H : Hp) (z : Prop) (r : RH) (Hr : Hp) (G : Nat → Prop) : Prop where
  ex : ∃ E, Hs W w hb p g bd n m V [] z E ∧ ∀ k, r.ft k ∨ G k → ∃ o, (k, o) ∈ E
  ok : Vok n V H
  rh : Rh W.heap.size w r n Hr
  fine : ∀ i, Fine (Hr i)
  ap : ∀ k, r.ft k → ¬ G k

theorem Hs.same {bd' : Nat} {V' : Nat → ByteArray} {A' : List Nat} {z' : Prop} {hb' : Nat} (t : Hs W w hb p g bd n m V A z E) (t' : Hs W w' hb' p g bd' n m V' A' z' E) {k : Nat} (hk : ∃ o, (k, o) ∈ E) : w'.heap[k]? = w.heap[k]? := by
  obtain ⟨o, ho⟩ := hk
  rw [t'.at ho, t.at ho]

/-- A call of the program. -/
theorem Du.prog {bd' : Nat} {V' : Nat → ByteArray} {H' : Hp} {z' : Prop} {hb' : Nat} (d : Du W w hb p g bd n m V H z r Hr G) (t : Hs W w hb p g bd n m V [] z E) (cov : ∀ k, r.ft k ∨ G k → ∃ o, (k, o) ∈ E) (t' : Hs W w' hb' p g bd' n m V' [] z' E) (ok' : Vok n V' H') : Du W w' hb' p g bd' n m V' H' z' r Hr G ∧ Same G w w' :=
  ⟨⟨⟨E, t', cov⟩, ok', d.rh.kept (fun k hk => t.same t' (cov k (Or.inl hk))), d.fine, d.ap⟩, fun k hk => t.same t' (cov k (Or.inr hk))⟩
theorem Du.below (d : Du W w hb p g bd n m V H z r Hr G) (b : Below w.heap.size w w') : Du W w' hb p g bd n m V H z r Hr G := by
  obtain ⟨E, t, cov⟩ := d.ex
  exact (d.prog t cov (t.below b) d.ok).1
theorem Du.mono {c : Nat} (d : Du W w hb p g bd n m V H z r Hr G) (hc : bd ≤ c) : Du W w hb p g c n m V H z r Hr G := by
  obtain ⟨E, t, cov⟩ := d.ex
  exact (d.prog t cov (t.mono hc) d.ok).1
theorem Du.bel (d : Du W w hb p g bd n m V H z r Hr G) : Below W.heap.size W w := by
  obtain ⟨E, t, cov⟩ := d.ex
  exact t.bel
theorem Same.below (d : Du W w hb p g bd n m V H z r Hr G) (b : Below w.heap.size w w') : Same G w w' := fun k hk => by
  obtain ⟨E, t, cov⟩ := d.ex
  obtain ⟨o, ho⟩ := cov k (Or.inr hk)
  exact b.block k (lt_of_some (t.at ho))
theorem Same.trans {w2 : World} (h : Same G w w') (k : Same G w' w2) : Same G w w2 := fun i hi => (k i hi).trans (h i hi)

/-- A call of the document. -/
theorem Du.ref {H' : Hp} (d : Du W w hb p g bd n m V H z r Hr G) (hF : ∀ i, Fine (H' i)) (t : RTo W.heap.size w r n H' w') : ∃ r' : RH, r'.q = r.q ∧ Du W w' hb p g bd n m V H z r' H' G ∧ Same G w w' := by
  obtain ⟨r', e1, e2, f, e4⟩ := t
  obtain ⟨E, t, cov⟩ := d.ex
  have hG : ∀ k, G k → k < w.heap.size := fun k hk => by
    obtain ⟨o, ho⟩ := cov k (Or.inr hk)
    exact lt_of_some (t.at ho)
  have hlt : ∀ k, r'.ft k ∨ G k → k < w'.heap.size := fun k hk => by
    rcases hk with q | q
    · exact (e2.from q).2
    · exact Nat.lt_of_lt_of_le (hG k q) f.size
  have sG : Same G w w' := fun k hk => f.block k (hG k hk) (fun q => d.ap k q hk)
  obtain ⟨E', h1, h2⟩ := cover w' (fun k => r'.ft k ∨ G k) w'.heap.size (Nat.le_refl _)
  have t' : Hs W w' hb p g bd n m V [] z E' := t.swap f (fun k hk => ⟨(d.rh.from hk).1, fun e => by
      have h3 := d.rh.tags hk
      rw [e, t.hbAt] at h3
      simp [tagOf, hobj] at h3, cov k (Or.inl hk)⟩) (fun y hy => by
    obtain ⟨a, b⟩ := h1 y hy
    refine ⟨a, ?_⟩
    rcases b with b | b
    · rcases e4 y.1 b with c | c
      · exact Or.inr (cov y.1 (Or.inl c))
      · exact Or.inl c
    · exact Or.inr (cov y.1 (Or.inr b)))
  exact ⟨r', e1, ⟨⟨E', t', fun k hk => h2 k (hlt k hk) hk⟩, d.ok, e2, hF, fun k hk hg => (e4 k hk).elim (fun q => d.ap k q hg) (fun q => by have := hG k hg; omega)⟩, sG⟩

theorem fine_ins (hF : ∀ i, Fine (H i)) (row : ByteArray) (i : Nat) : Fine (insHH n H row i) := by
  unfold insHH
  split
  · exact hF i
  · cases hj : lowP n H row with
    | none => exact hF i
    | some j =>
      show Fine (updH H j _ i)
      unfold updH
      split
      · exact ins_fine (hF j) row (low_of hj).2.2.1
      · exact hF i
theorem fine_pgOf (hF : ∀ i, Fine (H i)) (k : Int) : Fine (pgOf n H k) := by
  unfold pgOf; split; exact hF _; exact fine_nil
theorem fine_del (hF : ∀ i, Fine (H i)) (k : Int) (i : Nat) : Fine (delHH n H k i) := by
  unfold delHH
  split
  · unfold updH
    split
    · exact del_fine (fine_pgOf hF k) _
    · exact hF i
  · exact hF i
theorem fine_put (hF : ∀ i, Fine (H i)) (k : Int) (row : ByteArray) (i : Nat) : Fine (putHH n H k row i) := by
  unfold putHH
  split
  · rename_i q
    unfold updH
    split
    · exact put_fine (fine_pgOf hF k) _ row q
    · exact hF i
  · exact hF i

/-- The document's, made beside a heap. -/
theorem Du.make {w0 : World} (t : Hs W w0 hb p g bd n m V [] z E) (ok : Vok n V H) (rh : Rh w0.heap.size w r n (fun _ => [])) (b : Below w0.heap.size w0 w) : Du W w hb p g bd n m V H z r (fun _ => []) (fun _ => False) := by
  have hB := t.bel.size
  obtain ⟨E', h1, h2⟩ := cover w (fun k => r.ft k) w.heap.size (Nat.le_refl _)
  have t' : Hs W w hb p g bd n m V [] z E' := t.swap (F := fun _ => False) (Fr.of_below b) (fun k hk => hk.elim) (fun y hy => ⟨(h1 y hy).1, Or.inl (rh.from (h1 y hy).2).1⟩)
  refine ⟨⟨E', t', fun k hk => ?_⟩, ok, ⟨rh.top, Nat.le_trans hB rh.qB, owns_base rh.row hB, fun i x hx => (rh.pgs i x hx).mono hB, rh.len, rh.ap⟩, fun _ => fine_nil, fun _ _ q => q⟩
  rcases hk with q | q
  · exact h2 k (rh.from q).2 q
  · exact q.elim

set_option maxHeartbeats 800000 in
set_option maxRecDepth 100000 in
theorem ints_any {w : World} {A B : Nat} {va vb : Value} (L : List Int) (h : IRow w A va L) (h' : IRow w B vb L) (hl : L.length ≤ 1000000) :
    Calls Tryz.prog 49 #[va, vb] w fun e w' => e = .returned (.bool true) ∧ Below w.heap.size w w' := by
  obtain ⟨a, c, rfl, hc, _⟩ := h.len
  obtain ⟨a', c', rfl, hc', _⟩ := h'.len
  go_enter Tryz.func49, Tryz.ntmps49
  go_wp2_with fail
  go_loopw [5] (fun si wr => ∃ k : Nat, k ≤ L.length ∧ si = .int .i64 (k : Int) ∧ Below w.heap.size w wr) (fun si _ => L.length - (intOf si).toNat)
  case atStart => exact ⟨0, by omega, rfl, Below.refl _ _⟩
  case round =>
    obtain ⟨k, hk, rfl, hb⟩ := hrel
    by_cases hlt : k < L.length
    · have hx : L[k]? = some L[k] := by simp [hlt]
      generalize L[k] = x at hx
      obtain ⟨b, _, e, _, _, hbl, q1⟩ := h.cell hx
      cases e
      obtain ⟨b', _, e, _, _, hbl', q2⟩ := h'.cell hx
      cases e
      have c1 := (hb.cell (p := ⟨b, k, none⟩) hbl).trans q1
      have c2 := (hb.cell (p := ⟨b', k, none⟩) hbl').trans q2
      have hlt2 : (k : Int) < (L.length : Int) := by omega
      clear q1 q2 hx
      go_wp2_with fail
      go_region
      go_wp2_with fail
      go_roundw
      case rel => exact ⟨k + 1, by omega, by go_num, hb.drew⟩
      case measure => simp [intOf]; omega
    · obtain rfl : k = L.length := by omega
      go_wp2_with fail
      go_ret
      exact ⟨rfl, hb⟩

set_option maxHeartbeats 1600000 in
set_option maxRecDepth 100000 in
theorem same_any (d : Du W w hb p g bd n m V H z r H G) (hz : z) (hm : 1 ≤ m) (hn : n ≤ 500) (hbd : bd ≤ 40000) (k : Int) (hk : -9223372036854775808 ≤ k ∧ k ≤ 9223372036854775807) :
    Calls Tryz.prog 20 #[.pointer (some ⟨hb, 0, none⟩), .pointer (some ⟨r.q, 0, none⟩), .int .i64 k] w fun e w' => e = .returned (.bool true) ∧ Du W w' hb p g (bd + 6 * n + 20) n m V H z r H G ∧ Same G w w' := by
  obtain ⟨E, t, cov⟩ := d.ex
  have hn1 := d.ok.n
  have cP := places_any t (by omega) hm d.ok hn hz
  have D := (show Hid _ from d)
  have T := (show Hid _ from t)
  have C := (show Hid _ from cov)
  clear d t cov
  go_enter Tryz.func20, Tryz.ntmps20
  go_wp2_with fail
  refine cP.mono ?_
  rintro e w1 ⟨va, rfl, t1⟩
  have cQ := pages_any t1.hs (by omega) hm D.out.ok hz
  obtain ⟨aa, ac, rfl, _, _⟩ := t1.row.len
  have T1 := (show Hid _ from t1)
  clear cP t1
  go_wp2_with fail
  refine cQ.mono ?_
  rintro e w2 ⟨vb, rfl, t2⟩
  obtain ⟨ba', bc, rfl, _, _⟩ := t2.row.len
  have hs2 : Hs W w2 hb p g (bd + 3 * n + 6 + 3) n m V [] z E := (t2.base.less (fun y hy => List.mem_append_right _ hy))
  have ra2 : IRow w2 W.heap.size _ _ := T1.out.row.kept (fun k hk => by
    obtain ⟨o, ho⟩ := evOf_mem hk (T1.out.row.blk hk).2
    rw [t2.base.at (List.mem_append_left _ ho), (evOf_at ho).2])
  have rb2 := t2.row
  have rh2 : Rh W.heap.size w2 r n H := D.out.rh.kept (fun k hk => T.out.same hs2 (C.out k (Or.inl hk)))
  have lP : (placesN n H).length ≤ 1000000 := by
    rw [placesN_eq]
    have h1 := flat_len D.out.ok ((pgsN n).filter (fun i => !(H i).isEmpty))
    have h2 := List.length_filter_le (fun i => !(H i).isEmpty) (pgsN n)
    have e : (pgsN n).length = n - 1 := by unfold pgsN; rw [List.length_range']
    omega
  have lQ := pagesN_len H n
  clear cQ t2
  have c3 := rplaces_any rh2 D.out.fine ⟨hn1.1, hn⟩
  generalize hPP : placesN n H = PP at *
  generalize hQQ : pagesN n H = QQ at *
  go_wp2_with fail
  refine c3.mono ?_
  rintro e w3 ⟨v3, rfl, r3, b3⟩
  have c4 := ints_any PP (ra2.below' b3) r3 lP
  have hs3 := hs2.below b3
  have rb3 := rb2.below' b3
  have rh3 := rh2.below b3
  clear c3 b3 hs2 rh2 rb2 ra2 r3
  go_wp2_with fail
  refine c4.mono ?_
  rintro e w4 ⟨rfl, b4⟩
  have hs4 := hs3.below b4
  have rb4 := rb3.below' b4
  have rh4 := rh3.below b4
  have c5 := rpages_any rh4 D.out.fine ⟨hn1.1, hn⟩
  rw [hQQ] at c5
  clear c4 b4 hs3 rb3 rh3
  go_wp2_with fail
  refine c5.mono ?_
  rintro e w5 ⟨v5, rfl, r5, b5⟩
  have c6 := ints_any QQ (rb4.below' b5) r5 (by omega)
  have hs5 := hs4.below b5
  have rh5 := rh4.below b5
  clear c5 b5 hs4 rb4 rh4 r5
  go_wp2_with fail
  refine c6.mono ?_
  rintro e w6 ⟨rfl, b6⟩
  have hs6 := hs5.below b6
  have rh6 := rh5.below b6
  have c7 := get_heap hs6 (by omega) hm D.out.ok hz k
  clear c6 b6 hs5 rh5 hs6 rh6
  go_wp2_with fail
  refine c7.mono ?_
  rintro e w7 ⟨rfl, hs7⟩
  have rh7 : Rh W.heap.size w7 r n H := D.out.rh.kept (fun k hk => T.out.same hs7 (C.out k (Or.inl hk)))
  have c8 := rget_heap rh7 (by omega) hs7.bel.size D.out.fine k hk
  clear c7 rh7
  generalize getHS n H k = GS at *
  generalize delHX n H k = DX at *
  go_wp2_with fail
  refine c8.mono ?_
  rintro e w8 ⟨rfl, b8⟩
  have hs8 := hs7.below b8
  have HF := (show Hid _ from D.out.prog T.out C.out (hs8.mono (show bd + 3 * n + 6 + 3 + 3 ≤ bd + 6 * n + 20 by omega)) D.out.ok)
  clear c8 hs7 hs8 b8
  go_wp2_with fail
  go_ret
  exact ⟨rfl, HF.out⟩
end
end Go.Proofs.YtjmdenlocmleiaaGreat
end

section
namespace Go.Proofs.YtjmdenlocmleiaaGreat
open Go.RowKit

def stepObj (s : Hp1) : Obj := .cells #[.int .i64 s.kind, .int .i64 s.place, .string s.row] 34 (0, 0)

theorem stepCells {w : World} {X : Nat} {s : Hp1} (h : w.heap[X]? = some (stepObj s)) : w.cell? ⟨X, 0, none⟩ = some (.int .i64 s.kind) ∧ w.cell? ⟨X, 1, none⟩ = some (.int .i64 s.place) ∧ w.cell? ⟨X, 2, none⟩ = some (.string s.row) := by
  refine ⟨?_, ?_, ?_⟩ <;> simp [World.cell?, h, stepObj]

section
variable {W w w' : World} {hb p g bd n m : Nat} {V : Nat → ByteArray} {H Hr : Hp} {A : List Nat} {z : Prop} {E E' : List (Nat × Obj)} {r : RH} {G : Nat → Prop}

theorem Same.refl (G : Nat → Prop) (w : World) : Same G w w := fun _ _ => rfl

theorem Du.alloc (d : Du W w hb p g bd n m V H z r Hr G) (o : Obj) : Du W (w.alloc o) hb p g bd n m V H z r Hr (fun k => k = w.heap.size) := by
  obtain ⟨E, t, cov⟩ := d.ex
  have d2 := d.below (below_alloc1 w o)
  refine ⟨⟨_, t.alloc o, fun k hk => ?_⟩, d.ok, d2.rh, d.fine, fun k hk e => by have := (d.rh.from hk).2; omega⟩
  rcases hk with q | q
  · obtain ⟨o', ho⟩ := cov k (Or.inl q)
    exact ⟨o', List.mem_cons_of_mem _ ho⟩
  · exact ⟨o, by rw [q]; simp⟩
theorem Du.less {G' : Nat → Prop} (d : Du W w hb p g bd n m V H z r Hr G) (h : ∀ k, G' k → G k) : Du W w hb p g bd n m V H z r Hr G' := by
  obtain ⟨E, t, cov⟩ := d.ex
  exact ⟨⟨E, t, fun k hk => cov k (hk.imp id (h k))⟩, d.ok, d.rh, d.fine, fun k hk q => d.ap k hk (h k q)⟩
theorem Du.drew (d : Du W w hb p g bd n m V H z r Hr G) : Du W w.drew hb p g bd n m V H z r Hr G := d.below (below_drew w)

theorem Du.insert (d : Du W w hb p g bd n m V H z r Hr G) (hbd : bd ≤ 50000) (hm : 2 ≤ m) (row : ByteArray) (hrs : row.size ≤ 1000000) :
    Calls Tryz.prog 11 #[.pointer (some ⟨hb, 0, none⟩), .string row] w fun e w' => ∃ K X, e = .returned (.tuple #[.int .i64 K, .int .i64 X]) ∧
      ((K = 0 ∧ X = 42 ∧ ¬ z ∧ Du W w' hb p g (bd + 6 * n + 10) n m V H z r Hr G ∧ Same G w w') ∨ (K = insHK n H row ∧ X = insHX n H row ∧ ∃ V', Du W w' hb p g (bd + 6 * n + 10) n m V' (insHH n H row) z r Hr G ∧ Same G w w')) := by
  obtain ⟨E, t, cov⟩ := d.ex
  refine (insert_any t hbd hm d.ok row hrs).mono ?_
  rintro e w' ⟨K, X, rfl, ⟨q⟩⟩
  refine ⟨K, X, rfl, ?_⟩
  rcases q with ⟨a, b, c, t'⟩ | ⟨a, b, V', ok', t'⟩
  · exact Or.inl ⟨a, b, c, d.prog t cov t' d.ok⟩
  · exact Or.inr ⟨a, b, V', d.prog t cov t' ok'⟩
theorem Du.delete (d : Du W w hb p g bd n m V H z r Hr G) (hbd : bd ≤ 60000) (hm : 2 ≤ m) (k : Int) :
    Calls Tryz.prog 15 #[.pointer (some ⟨hb, 0, none⟩), .int .i64 k] w fun e w' => ∃ Y, e = .returned (.int .i64 Y) ∧
      ((Y = 42 ∧ ¬ z ∧ Du W w' hb p g (bd + 9) n m V H z r Hr G ∧ Same G w w') ∨ (Y = delHX n H k ∧ ∃ V', Du W w' hb p g (bd + 9) n m V' (delHH n H k) z r Hr G ∧ Same G w w')) := by
  obtain ⟨E, t, cov⟩ := d.ex
  refine (delete_any t hbd hm d.ok k).mono ?_
  rintro e w' ⟨Y, rfl, ⟨q⟩⟩
  refine ⟨Y, rfl, ?_⟩
  rcases q with ⟨b, c, t'⟩ | ⟨b, V', ok', t'⟩
  · exact Or.inl ⟨b, c, d.prog t cov t' d.ok⟩
  · exact Or.inr ⟨b, V', d.prog t cov t' ok'⟩
theorem Du.put (d : Du W w hb p g bd n m V H z r Hr G) (hbd : bd ≤ 60000) (hm : 2 ≤ m) (k : Int) (row : ByteArray) (hrs : row.size ≤ 1000000) :
    Calls Tryz.prog 13 #[.pointer (some ⟨hb, 0, none⟩), .int .i64 k, .string row] w fun e w' => ∃ Y, e = .returned (.int .i64 Y) ∧
      ((Y = 42 ∧ ¬ z ∧ Du W w' hb p g (bd + 9) n m V H z r Hr G ∧ Same G w w') ∨ (Y = putHX n H k row ∧ ∃ V', Du W w' hb p g (bd + 9) n m V' (putHH n H k row) z r Hr G ∧ Same G w w')) := by
  obtain ⟨E, t, cov⟩ := d.ex
  refine (put_heap t hbd hm d.ok k row hrs).mono ?_
  rintro e w' ⟨Y, rfl, ⟨q⟩⟩
  refine ⟨Y, rfl, ?_⟩
  rcases q with ⟨b, c, t'⟩ | ⟨b, V', ok', t'⟩
  · exact Or.inl ⟨b, c, d.prog t cov t' d.ok⟩
  · exact Or.inr ⟨b, V', d.prog t cov t' ok'⟩

theorem Du.rinsert (d : Du W w hb p g bd n m V H z r Hr G) (row : ByteArray) (hrs : row.size ≤ 1000000) :
    Calls Tryz.prog 12 #[.pointer (some ⟨r.q, 0, none⟩), .string row] w fun e w' => e = .returned (.tuple #[.int .i64 (insHK n Hr row), .int .i64 (insHX n Hr row)]) ∧
      ∃ r' : RH, r'.q = r.q ∧ Du W w' hb p g bd n m V H z r' (insHH n Hr row) G ∧ Same G w w' := by
  refine (rins_heap d.rh d.bel.size d.fine d.ok.n row hrs).mono ?_
  rintro e w' ⟨rfl, t⟩
  exact ⟨rfl, d.ref (fine_ins d.fine row) t⟩
theorem Du.rdelete (d : Du W w hb p g bd n m V H z r Hr G) (k : Int) (hk : i64B k) :
    Calls Tryz.prog 16 #[.pointer (some ⟨r.q, 0, none⟩), .int .i64 k] w fun e w' => e = .returned (.int .i64 (delHX n Hr k)) ∧
      ∃ r' : RH, r'.q = r.q ∧ Du W w' hb p g bd n m V H z r' (delHH n Hr k) G ∧ Same G w w' := by
  refine (rdelete_any d.rh d.ok.n.2 d.bel.size d.fine k hk).mono ?_
  rintro e w' ⟨rfl, t⟩
  exact ⟨rfl, d.ref (fine_del d.fine k) t⟩
theorem Du.rput (d : Du W w hb p g bd n m V H z r Hr G) (k : Int) (hk : i64B k) (row : ByteArray) (hrs : row.size ≤ 1000000) :
    Calls Tryz.prog 14 #[.pointer (some ⟨r.q, 0, none⟩), .int .i64 k, .string row] w fun e w' => e = .returned (.int .i64 (putHX n Hr k row)) ∧
      ∃ r' : RH, r'.q = r.q ∧ Du W w' hb p g bd n m V H z r' (putHH n Hr k row) G ∧ Same G w w' := by
  refine (rput_heap d.rh d.ok.n.2 d.bel.size d.fine k hk row hrs).mono ?_
  rintro e w' ⟨rfl, t⟩
  exact ⟨rfl, d.ref (fine_put d.fine k row) t⟩

theorem Du.evict (d : Du W w hb p g bd n m V H z r Hr G) (hbd : bd ≤ 80000) (k : Int) (hk : i64B k) :
    Calls Tryz.prog 17 #[.pointer (some ⟨p, 0, none⟩), .int .i64 k] w fun e w' => ∃ X, e = .returned (.int .i64 X) ∧ Du W w' hb p g (bd + 1) n m V H z r Hr G ∧ Same G w w' := by
  obtain ⟨E, t, cov⟩ := d.ex
  refine (t.evict hbd k hk.1 hk.2).mono ?_
  rintro e w' ⟨X, rfl, t'⟩
  exact ⟨X, rfl, d.prog t cov t' d.ok⟩
theorem Du.flush (d : Du W w hb p g bd n m V H z r Hr G) (hz : z) (hbd : bd ≤ 80000) :
    Calls Tryz.prog 18 #[.pointer (some ⟨p, 0, none⟩)] w fun e w' => e = .returned (.int .i64 0) ∧ Du W w' hb p g (bd + 66) n m V H z r Hr G ∧ Same G w w' := by
  obtain ⟨E, t, cov⟩ := d.ex
  refine (t.flush hz hbd).mono ?_
  rintro e w' ⟨rfl, t'⟩
  exact ⟨rfl, d.prog t cov t'.hs d.ok⟩
theorem Du.renew (d : Du W w hb p g bd n m V H z r Hr G) : Du W (w.alloc (hobj p)) w.heap.size p g bd n m V H z r Hr G ∧ Same G w (w.alloc (hobj p)) := by
  obtain ⟨E, t, cov⟩ := d.ex
  exact d.prog t cov t.renew d.ok
theorem Du.get (d : Du W w hb p g bd n m V H z r Hr G) (hz : z) (hbd : bd ≤ 60000) (hm : 1 ≤ m) (k : Int) :
    Calls Tryz.prog 22 #[.pointer (some ⟨hb, 0, none⟩), .int .i64 k] w fun e w' => e = .returned (.tuple #[.string (getHS n H k), .int .i64 (delHX n H k)]) ∧ Du W w' hb p g (bd + 3) n m V H z r Hr G := by
  obtain ⟨E, t, cov⟩ := d.ex
  refine (get_heap t hbd hm d.ok hz k).mono ?_
  rintro e w' ⟨rfl, t'⟩
  exact ⟨rfl, (d.prog t cov t' d.ok).1⟩
theorem Du.rget (d : Du W w hb p g bd n m V H z r Hr G) (k : Int) (hk : i64B k) :
    Calls Tryz.prog 23 #[.pointer (some ⟨r.q, 0, none⟩), .int .i64 k] w fun e w' => e = .returned (.tuple #[.string (getHS n Hr k), .int .i64 (delHX n Hr k)]) ∧ Du W w' hb p g bd n m V H z r Hr G := by
  refine (rget_heap d.rh d.ok.n.2 d.bel.size d.fine k hk).mono ?_
  rintro e w' ⟨rfl, b⟩
  exact ⟨rfl, d.below b⟩
theorem Du.rplaces (d : Du W w hb p g bd n m V H z r Hr G) (hn : n ≤ 500) :
    Calls Tryz.prog 21 #[.pointer (some ⟨r.q, 0, none⟩)] w fun e w' => ∃ v, e = .returned v ∧ IRow w' w.heap.size v (placesN n Hr) ∧ Du W w' hb p g bd n m V H z r Hr G := by
  refine (rplaces_any d.rh d.fine ⟨d.ok.n.1, hn⟩).mono ?_
  rintro e w' ⟨v, rfl, a, b⟩
  exact ⟨v, rfl, a, d.below b⟩
end

theorem slotsF_row (l : List Sl) : ∀ (i : Nat) (x : Int), x ∈ slotsF l i → ∃ (k : Nat) (r : ByteArray), x = (i : Int) + (k : Int) ∧ l[k]? = some (some r) := by
  induction l with
  | nil => intro i x h; cases h
  | cons s l ih =>
    intro i x h
    cases s with
    | none =>
      obtain ⟨k, r, e, hk⟩ := ih (i + 1) x h
      exact ⟨k + 1, r, by omega, by simpa using hk⟩
    | some r =>
      rcases List.mem_cons.1 h with e | q
      · exact ⟨0, r, by omega, rfl⟩
      · obtain ⟨k, r', e, hk⟩ := ih (i + 1) x q
        exact ⟨k + 1, r', by omega, by simpa using hk⟩
/-- What is told of the places is there. -/
theorem places_there {n : Nat} {V : Nat → ByteArray} {H : Hp} (ok : Vok n V H) {x : Int} (h : x ∈ placesN n H) : delHX n H x = 0 ∧ i64B x := by
  unfold placesN at h
  obtain ⟨p, hp, hx⟩ := List.mem_flatMap.1 h
  obtain ⟨y, hy, rfl⟩ := List.mem_map.1 hx
  obtain ⟨s, r, e, hs⟩ := slotsF_row _ _ _ hy
  obtain ⟨h1, h2⟩ := mem_pgs.1 hp
  have h3 := few (ok.fine p).room
  have hsl : s < (H p).length := (List.getElem?_eq_some_iff.1 hs).1
  have hn := ok.n.2
  have e2 : y = (s : Int) := by omega
  subst e2
  obtain ⟨e1, e2, e3⟩ := pg_near (n := n) (H := H) (k := 128 * (p : Int) + (s : Int)) rfl (by omega) h1 h2
  refine ⟨?_, ⟨by omega, by omega⟩⟩
  unfold delHX delE rowAt
  rw [e1, e2, if_pos (by omega), Int.toNat_natCast, hs]
  rfl
end Go.Proofs.YtjmdenlocmleiaaGreat
end

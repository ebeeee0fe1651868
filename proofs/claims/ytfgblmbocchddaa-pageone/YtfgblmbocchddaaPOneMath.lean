/- PageOne: the slots that are built anew; the document's Same; two pages side by side. -/
import Derived.Test.YtfgblmbocchddaaPPlay
namespace Go.Proofs.Ytfgblmbocchddaa
open Go.RowKit

/-- A slot with its row, or with an empty one. -/
def fullS (s : Sl) : Sl := some (rowOf s)
def mz (l : List Sl) (i : Nat) : List Sl := (l.take i).map fullS
def lz (l : List Sl) (i : Nat) : List Sl := l.take i ++ (l.drop i).map fullS

theorem tot_full (l : List Sl) : tot (l.map fullS) = tot l := by
  induction l with
  | nil => rfl
  | cons s l ih => simp only [List.map_cons, tot, ih]; rfl
theorem first_full (l : List Sl) : first (l.map fullS) = l.length := by
  induction l with
  | nil => rfl
  | cons s l ih => simp only [List.map_cons, fullS, first, List.length_cons]; rw [← ih]
theorem trim_full (l : List Sl) : trimL (l.map fullS) = l.map fullS := by
  by_cases h0 : l = []
  · rw [h0]; rfl
  · have e := (List.dropLast_concat_getLast h0).symm
    generalize l.dropLast = a at e
    generalize l.getLast h0 = s at e
    subst e
    rw [List.map_append]
    exact trim_some _ _
theorem rows_full {l : List Sl} (h : ∀ r, some r ∈ l → r.size ≤ 400) (r : ByteArray) (hr : some r ∈ l.map fullS) : r.size ≤ 400 := by
  rw [List.mem_map] at hr
  obtain ⟨s, hs, e⟩ := hr
  cases s with
  | none => cases e; exact Nat.zero_le _
  | some x => cases e; exact h _ hs
theorem tot_take (l : List Sl) (i : Nat) : tot (l.take i) ≤ tot l := by
  have : tot l = tot (l.take i) + tot (l.drop i) := by rw [← tot_append, List.take_append_drop]
  omega
theorem mz_fine {l : List Sl} (hF : Fine l) (i : Nat) : Fine (mz l i) := by
  refine ⟨trim_full _, ?_, fun r hr => rows_full (fun r hr => hF.rows r (List.mem_of_mem_take hr)) r hr⟩
  have := hF.room
  have := tot_take l i
  unfold mz room at *
  rw [tot_full, List.length_map, List.length_take]
  omega
theorem mz_step {l : List Sl} (hF : Fine l) (i : Nat) (s : Sl) (hs : l[i]? = some s) : insN (mz l i) (rowOf s) = mz l (i + 1) := by
  have hlt : i < l.length := (List.getElem?_eq_some_iff.1 hs).1
  have hln : (mz l i).length = i := by unfold mz; rw [List.length_map, List.length_take]; omega
  have hfi : first (mz l i) = i := by unfold mz; rw [first_full, List.length_take]; omega
  have hw : withF (mz l i) = mz l i ++ [none] := by unfold withF; rw [hfi, hln, if_neg (by omega)]
  have hm : mz l (i + 1) = mz l i ++ [some (rowOf s)] := by
    unfold mz
    rw [take_snoc l i s hs, List.map_append]
    rfl
  have hs4 : (rowOf s).size ≤ 400 := by
    cases s with
    | none => exact Nat.zero_le _
    | some r => exact hF.rows r (List.mem_of_getElem? hs)
  have hE : insE (mz l i) (rowOf s) = 0 := by
    unfold insE
    rw [if_neg (by omega), if_neg]
    have h1 := (mz_fine hF (i + 1)).room
    rw [hm] at h1
    rw [hw]
    unfold room at *
    rw [tot_append, List.length_append] at *
    simp only [tot, rowOf, List.length_singleton] at *
    have e : (ByteArray.mk #[]).size = 0 := rfl
    omega
  unfold insN insL
  rw [if_pos hE, hw, hfi, hm, List.set_append_right _ _ (by omega), hln, Nat.sub_self]
  rfl
theorem lz_zero (l : List Sl) : lz l 0 = mz l l.length := by unfold lz mz; rw [List.take_length]; simp
theorem lz_end (l : List Sl) : lz l l.length = l := by unfold lz; simp
theorem lz_some (l : List Sl) (i : Nat) (r : ByteArray) (h : l[i]? = some (some r)) : lz l (i + 1) = lz l i := by
  have hlt : i < l.length := (List.getElem?_eq_some_iff.1 h).1
  have hg : l[i] = some r := by rw [List.getElem?_eq_getElem hlt] at h; exact Option.some.inj h
  unfold lz
  rw [take_snoc l i _ h, List.drop_eq_getElem_cons hlt, List.map_cons, hg, List.append_assoc]
  rfl
theorem lz_get (l : List Sl) (i : Nat) (s : Sl) (h : l[i]? = some s) : (lz l i)[i]? = some (some (rowOf s)) := by
  have hlt : i < l.length := (List.getElem?_eq_some_iff.1 h).1
  have hg : l[i] = s := by rw [List.getElem?_eq_getElem hlt] at h; exact Option.some.inj h
  unfold lz
  rw [List.getElem?_append_right (by rw [List.length_take]; omega), List.length_take, List.drop_eq_getElem_cons hlt, List.map_cons, hg]
  rw [show i - min i l.length = 0 by omega]
  rfl
theorem lz_trim {l : List Sl} (hF : Fine l) (i : Nat) : trimL (lz l i) = lz l i := by
  by_cases hi : i < l.length
  · unfold lz
    have h0 : l.drop i ≠ [] := by intro e; have := congrArg List.length e; simp at this; omega
    have e := (List.dropLast_concat_getLast h0).symm
    generalize (l.drop i).dropLast = a at e
    generalize (l.drop i).getLast h0 = s at e
    rw [e, List.map_append, ← List.append_assoc]
    exact trim_some _ _
  · have : lz l i = l := by unfold lz; rw [List.take_of_length_le (by omega), List.drop_of_length_le (by omega)]; simp
    rw [this]
    exact hF.trim
theorem lz_fine {l : List Sl} (hF : Fine l) (i : Nat) : Fine (lz l i) := by
  have ht : tot (lz l i) = tot l := by unfold lz; rw [tot_append, tot_full, ← tot_append, List.take_append_drop]
  have hl : (lz l i).length = l.length := by unfold lz; rw [List.length_append, List.length_map, List.length_take, List.length_drop]; omega
  refine ⟨lz_trim hF i, ?_, ?_⟩
  · have := hF.room
    unfold room at *
    rw [ht, hl]
    exact this
  · intro r hr
    unfold lz at hr
    rcases List.mem_append.1 hr with q | q
    · exact hF.rows r (List.mem_of_mem_take q)
    · exact rows_full (fun r hr => hF.rows r (List.mem_of_mem_drop hr)) r q
theorem lz_none {l : List Sl} (hF : Fine l) (i : Nat) (h : l[i]? = some none) : delN (lz l i) (i : Int) = lz l (i + 1) := by
  have hlt : i < l.length := (List.getElem?_eq_some_iff.1 h).1
  have hg : l[i] = none := by rw [List.getElem?_eq_getElem hlt] at h; exact Option.some.inj h
  have hx := lz_get l i none h
  have hE : delE (lz l i) (i : Int) = 0 := by
    unfold delE rowAt
    rw [if_pos (by omega), Int.toNat_natCast, hx]
    rfl
  have hs : (lz l i).set i none = lz l (i + 1) := by
    unfold lz
    rw [List.set_append_right _ _ (by rw [List.length_take]; omega), List.length_take, show i - min i l.length = 0 by omega, List.drop_eq_getElem_cons hlt, List.map_cons, List.set_cons_zero, take_snoc l i _ h, List.append_assoc]
    rfl
  unfold delN delL
  rw [if_pos hE, Int.toNat_natCast, hs]
  exact lz_trim hF (i + 1)
/-- The greatest slot, and one. -/
theorem slots_last {l : List Sl} (hF : Fine l) : (l = [] ∧ slotsF l 0 = []) ∨ ∃ A : List Int, slotsF l 0 = A ++ [((l.length - 1 : Nat) : Int)] ∧ 1 ≤ l.length := by
  rcases trim_last l hF.trim with rfl | ⟨a, r, rfl⟩
  · exact Or.inl ⟨rfl, rfl⟩
  · refine Or.inr ⟨slotsF a 0, ?_, by simp⟩
    rw [slotsF_append]
    simp [slotsF]

theorem belowDrewN (w : World) (n : Nat) : Below w.heap.size w (w.drewN n) := by
  induction n with
  | zero => exact Below.refl _ _
  | succ n ih => exact ih.drew

/-- Two pages side by side. -/
structure Two (B : Nat) (w : World) (xb : Nat) (xv : Value) (lx : List Sl) (yb : Nat) (yv : Value) (ly : List Sl) : Prop where
  x : Pgr B w xb xv lx
  y : Pgr B w yb yv ly
  dis : ∀ k, footP xb xv k → ¬ footP yb yv k
section
variable {B : Nat} {w w' : World} {xb yb : Nat} {xv yv : Value} {lx ly : List Sl}
theorem Two.below (h : Two B w xb xv lx yb yv ly) (hb : Below w.heap.size w w') : Two B w' xb xv lx yb yv ly := ⟨h.x.below hb, h.y.below hb, h.dis⟩
theorem Two.swap (h : Two B w xb xv lx yb yv ly) : Two B w yb yv ly xb xv lx := ⟨h.y, h.x, fun k a b => h.dis k b a⟩
theorem Two.step {l' : List Sl} (h : Two B w xb xv lx yb yv ly) (z : PTo B w xb xv l' w') : ∃ xv', Two B w' xb xv' l' yb yv ly := by
  obtain ⟨v', p, f, g⟩ := z
  refine ⟨v', p, h.y.kept (fun k r => f.block k (h.y.lt k r).2 (fun q => h.dis k q r)), ?_⟩
  rintro k (rfl | q) r
  · exact h.dis k (Or.inl rfl) r
  · rcases g k q with s | s
    · exact h.dis k (Or.inr s) r
    · have := (h.y.lt k r).2; omega
theorem Two.new (h : Pgr B w xb xv lx) (hB : B ≤ w.heap.size) : Two B (w.alloc (.cells #[.slice none 0 0] 29)) xb xv lx w.heap.size (.slice none 0 0) [] := by
  refine ⟨h.below (below_alloc1 w _), (Pgr.new w).mono hB, ?_⟩
  rintro k r (q | q)
  · have := (h.lt k r).2; omega
  · cases q
end

set_option maxHeartbeats 3200000 in
set_option maxRecDepth 100000 in
theorem rsame_any {A B : Nat} {w : World} {xb yb : Nat} {xv yv : Value} {lx ly : List Sl} (x : Pgr A w xb xv lx) (y : Pgr B w yb yv ly) (hlx : lx.length ≤ 1000) (_hly : ly.length ≤ 1000) (R : Bool) (HR : Hid (R = true ↔ lx = ly)) :
    Calls Try.prog 14 #[.pointer (some ⟨xb, 0, none⟩), .pointer (some ⟨yb, 0, none⟩)] w fun e w' => e = .returned (.bool R) ∧ Below w.heap.size w w' := by
  obtain ⟨xc, _⟩ := x.cell
  obtain ⟨yc, _⟩ := y.cell
  obtain ⟨a, c, hv, hc, _⟩ := x.row.len
  subst hv
  obtain ⟨a', c', hv, hc', _⟩ := y.row.len
  subst hv
  by_cases hl : lx.length = ly.length
  · have hl2 : ((lx.length : Int) != (ly.length : Int)) = false := by simp; omega
    have HLE : Hid (lx.length = ly.length) := hl
    clear hl
    go_enter Try.func14, Try.ntmps14
    go_wp2_with fail
    go_quiet (fail)
    go_wp2_with fail
    go_loopw [5] (fun si wr => ∃ k : Nat, k ≤ lx.length ∧ si = .int .i64 (k : Int) ∧ lx.take k = ly.take k ∧ Below w.heap.size w wr) (fun si _ => lx.length - (intOf si).toNat)
    case atStart => exact ⟨0, Nat.zero_le _, rfl, rfl, belowDrewN _ _⟩
    case round =>
      obtain ⟨k, hk, rfl, ht, hb⟩ := hrel
      have HT : Hid (lx.take k = ly.take k) := ht
      clear ht
      have xc' : wr.cell? ⟨xb, 0, none⟩ = some (.slice a lx.length c) := (hb.cell (p := ⟨xb, 0, none⟩) x.qlt).trans xc
      have yc' : wr.cell? ⟨yb, 0, none⟩ = some (.slice a' ly.length c') := (hb.cell (p := ⟨yb, 0, none⟩) y.qlt).trans yc
      by_cases hlt : k < lx.length
      · have hlt2 : (k : Int) < (lx.length : Int) := by omega
        have hlt3 : k < ly.length := by have := HLE.out; omega
        have hlt4 : (k : Int) < (ly.length : Int) := by omega
        have hx : lx[k]? = some lx[k] := by simp [hlt]
        have hy : ly[k]? = some ly[k] := by simp [hlt3]
        generalize lx[k] = s at hx
        generalize ly[k] = t at hy
        obtain ⟨b, _, e, _, _, _, hbl, p0, p1, _⟩ := x.row.cell hx
        cases e
        obtain ⟨b', _, e, _, _, _, hbl', q0, q1, _⟩ := y.row.cell hy
        cases e
        have p0' : wr.cell? ⟨b, k * 2, none⟩ = some (.string (rowOf s)) := (hb.cell (p := ⟨b, k * 2, none⟩) hbl).trans p0
        have p1' : wr.cell? ⟨b, k * 2 + 1, none⟩ = some (.bool s.isSome) := (hb.cell (p := ⟨b, k * 2 + 1, none⟩) hbl).trans p1
        have q0' : wr.cell? ⟨b', k * 2, none⟩ = some (.string (rowOf t)) := (hb.cell (p := ⟨b', k * 2, none⟩) hbl').trans q0
        have q1' : wr.cell? ⟨b', k * 2 + 1, none⟩ = some (.bool t.isSome) := (hb.cell (p := ⟨b', k * 2 + 1, none⟩) hbl').trans q1
        clear p0 p1 q0 q1
        by_cases hst : s = t
        · subst hst
          have HT2 : Hid (lx.take (k + 1) = ly.take (k + 1)) := by show _ = _; rw [take_snoc _ _ _ hx, take_snoc _ _ _ hy, HT.out]
          generalize s.isSome = q at *
          generalize rowOf s = r at *
          have hqq : (q != q) = false := by simp
          clear hx hy HT
          go_wp2_with fail
          go_quiet (fail)
          go_wp2_with fail
          go_roundw
          case rel => exact ⟨k + 1, by omega, by go_num, HT2.out, below2 hb (belowDrewN _ _)⟩
          case measure => simp [intOf]; omega
        · obtain rfl : R = false := by
            cases R with
            | false => rfl
            | true =>
              have e := HR.out.1 rfl
              rw [e, hy] at hx
              exact absurd (Option.some.inj hx).symm hst
          by_cases hsm : s.isSome = t.isSome
          · have hrn : ¬ rowOf s = rowOf t := by
              intro e
              cases s with
              | none => cases t with
                | none => exact hst rfl
                | some r => cases hsm
              | some r => cases t with
                | none => cases hsm
                | some r' => exact hst (congrArg some e)
            have hne := bytes_ne hrn
            rw [← hsm] at q1'
            generalize s.isSome = q at *
            generalize rowOf s = r at *
            generalize rowOf t = r' at *
            have hqq : (q != q) = false := by simp
            clear hx hy HT hst hrn hsm
            go_wp2_with fail
            go_quiet (fail)
            go_wp2_with fail
            go_ret
            exact ⟨rfl, below2 hb (belowDrewN _ _)⟩
          · cases s with
            | none => cases t with
              | none => exact absurd rfl hsm
              | some r' =>
                have p1'' : wr.cell? ⟨b, k * 2 + 1, none⟩ = some (.bool false) := p1'
                have q1'' : wr.cell? ⟨b', k * 2 + 1, none⟩ = some (.bool true) := q1'
                clear hx hy HT hst hsm p1' q1'
                go_wp2_with fail
                go_quiet (fail)
                go_wp2_with fail
                go_ret
                exact ⟨rfl, below2 hb (belowDrewN _ _)⟩
            | some r => cases t with
              | some r' => exact absurd rfl hsm
              | none =>
                have p1'' : wr.cell? ⟨b, k * 2 + 1, none⟩ = some (.bool true) := p1'
                have q1'' : wr.cell? ⟨b', k * 2 + 1, none⟩ = some (.bool false) := q1'
                clear hx hy HT hst hsm p1' q1'
                go_wp2_with fail
                go_quiet (fail)
                go_wp2_with fail
                go_ret
                exact ⟨rfl, below2 hb (belowDrewN _ _)⟩
      · obtain rfl : k = lx.length := by omega
        obtain rfl : R = true := by
          apply HR.out.2
          have h1 := HT.out
          rw [List.take_length, HLE.out, List.take_length] at h1
          exact h1
        go_wp2_with fail
        go_ret
        exact ⟨rfl, hb⟩
  · have hl2 : ((lx.length : Int) != (ly.length : Int)) = true := by simp; omega
    obtain rfl : R = false := by
      cases R with
      | false => rfl
      | true => exact absurd (congrArg List.length (HR.out.1 rfl)) hl
    clear hl
    go_enter Try.func14, Try.ntmps14
    go_wp2_with fail
    go_quiet (fail)
    go_wp2_with fail
    go_ret
    exact ⟨rfl, belowDrewN _ _⟩

end Go.Proofs.Ytfgblmbocchddaa

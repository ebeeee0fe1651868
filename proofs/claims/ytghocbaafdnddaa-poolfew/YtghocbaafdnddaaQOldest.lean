/- PoolOldest: the walk. -/
import Derived.Test.YtghocbaafdnddaaQFine
import Derived.Test.YtghocbaafdnddaaQArgs
namespace Go.Proofs.Ytghocbaafdnddaa
open Go.RowKit

/-- A row that others have, as blocks of theirs. -/
def rowE (w : World) (v : Value) : List (Nat × Obj) :=
  match v.ownBlock with
  | none => []
  | some k => match w.heap[k]? with
    | none => []
    | some o => [(k, o)]

theorem rowE_kept {w w' : World} {B : Nat} {v : Value} {L : List Int} (h : IRow w B v L) (hk : ∀ y ∈ rowE w v, w'.heap[y.1]? = some y.2) : IRow w' B v L := by
  refine h.kept (fun k e => ?_)
  have hlt := (h.blk e).2
  have e1 : w.heap[k]? = some w.heap[k] := by simp [hlt]
  have := hk (k, w.heap[k]) (by unfold rowE; rw [e]; simp only; rw [e1]; simp)
  rw [e1]
  exact this
theorem rowE_of {w : World} {v : Value} {y : Nat × Obj} (hy : y ∈ rowE w v) : v.ownBlock = some y.1 ∧ w.heap[y.1]? = some y.2 := by
  unfold rowE at hy
  split at hy
  · cases hy
  · rename_i k e
    split at hy
    · cases hy
    · rename_i o e2
      rw [List.mem_singleton] at hy
      subst hy
      exact ⟨e, e2⟩

theorem rowE_below {w w' : World} {B : Nat} {v : Value} {L : List Int} (h : IRow w B v L) (hb : Below w.heap.size w w') : rowE w' v = rowE w v := by
  unfold rowE
  cases e : v.ownBlock with
  | none => rfl
  | some k =>
    simp only
    rw [hb.block k (h.blk e).2]

/-- A row that was made behind it is no part of a pool. -/
theorem Q1.row {W w w' : World} {p g bd B : Nat} {S : St} {v : Value} {L : List Int} (h : Q1 W w p g bd S []) (hb : Below w.heap.size w w') (hr : IRow w' B v L) (hB : w.heap.size ≤ B) : Q1 W w' p g bd S (rowE w' v) := by
  obtain ⟨x, e1, e2, e3, e4, e5, _⟩ := h.ex
  refine ⟨⟨x, e1, e2, e3, e4.below hb, e5, fun y hy => ?_⟩, below2 h.bel hb⟩
  obtain ⟨q1, q2⟩ := rowE_of hy
  refine ⟨q2, fun f => ?_⟩
  have h1 := (hr.blk q1).1
  have h2 := e4.lt f
  omega

def ints (T : List Nat) : List Int := T.map (fun k : Nat => (k : Int))
def notK (k : Nat) (z : Int) : Bool := !(z == (k : Int))
theorem ints_look (n k : Nat) (T : List Nat) : ints (lookT n k T) = (k : Int) :: ((ints T).filter (notK k)).take (n - 1) := by
  unfold lookT ints
  rw [List.map_cons, List.filter_map, List.map_take]
  congr 4
  funext z
  rw [Bool.eq_iff_iff]
  simp [notK]
  omega
theorem notK_filter (k : Nat) (z : Int) : [z].filter (notK k) = if z = (k : Int) then [] else [z] := by
  by_cases h : z = (k : Int)
  · rw [if_pos h, List.filter_cons, if_neg (by simp [notK, h]), List.filter_nil]
  · rw [if_neg h, List.filter_cons, if_pos (by simp [notK, h]), List.filter_nil]

/-- What is looked at so far. -/
structure Ol (W : World) (n p g bd : Nat) (v : Value) (wr : World) (S : St) (T : List Nat) (R : List Int) (E : List (Nat × Obj)) : Prop where
  q : Q1 W wr p g bd S E
  o : Old n (D0 30) S T
  t : R = ints T
  r : IRow wr W.heap.size v R
  e : ∀ y ∈ rowE wr v, y ∈ E

theorem irow_one (w : World) (x : Int) : IRow (w.alloc (.cells #[.int .i64 x] 3)) w.heap.size (.slice (some ⟨w.heap.size, 0, none⟩) 1 1) [x] :=
  ⟨⟨rfl, Or.inr ⟨w.heap.size, 1, #[.int .i64 x], rfl, Nat.le_refl _, heap_alloc_new _ _, Nat.le_refl _, by unfold maxLen; omega, rfl, rfl⟩⟩⟩
theorem belowDrewN (w : World) (k : Nat) : Below w.heap.size w (w.drewN k) := ⟨rfl, rfl, rfl, Nat.le_refl _, fun _ _ => rfl⟩

theorem mem_take_step {H : List Int} {m : Nat} {z y : Int} (hz : H[m]? = some z) : y ∈ H.take (m + 1) ↔ y ∈ H.take m ∨ y = z := by
  rw [List.take_add_one, hz]
  simp

set_option maxHeartbeats 6400000 in
set_option maxRecDepth 100000 in
theorem poolOldest_walk (fr : Int) (a : Option Addr) (L : List Int) (c : Nat) (w : World) (hfr : i64B fr) (hL : SlG w a 1 (fun x => [.int .u8 x]) L) (hLb : ∀ x ∈ L, u8B x) (_hc : L.length ≤ c) (hcm : c ≤ maxLen) :
    Calls Try.prog 6 #[.int .i64 fr, .slice a L.length c] w fun e w' => e = .returned (.bool true) ∧ Below w.heap.size w w' := by
  have hcm2 : (L.length : Int) ≤ 9223372036854775807 := by unfold maxLen at hcm; omega
  have cM := mod_any fr 8 w hfr.1 hfr.2 (by decide) (by decide)
  go_enter Try.func6, Try.ntmps6
  go_wp2_with fail
  refine cM.mono ?_
  rintro e w0 ⟨r, rfl, hr, hw0⟩
  subst hw0
  clear cM
  have cN := new_any 30 w0 (by decide) (by decide)
  go_wp2_with fail
  refine cN.mono ?_
  rintro e w1 ⟨g, gs, rfl, d1, b1⟩
  clear cN
  have cP := q1_new (n := 1 + r) (by omega) (by omega) d1 (inv_new 30 (by decide) (by decide)) b1
  rw [show ((1 + r : Nat) : Int) = 1 + (r : Int) by omega] at cP
  clear d1 b1
  go_wp2_with fail
  refine cP.mono ?_
  rintro e w2 ⟨p, rfl, q2⟩
  clear cP
  have Q2 : Hid (Q1 w0 w2 p g 0 ⟨1 + r, [], 0, 0, D0 30⟩ []) := q2
  clear q2
  go_wp2_with fail
  go_loopw [10, 11] (fun sv si wr => ∃ (i : Nat) (S : St) (T : List Nat) (R : List Int) (E : List (Nat × Obj)), i ≤ 200 ∧ si = .int .i64 (i : Int) ∧ Ol w0 (1 + r) p g (3 * i) sv wr S T R E) (fun _ si _ => 200 - (intOf si).toNat)
  case atStart => exact ⟨0, _, [], [], [], Nat.zero_le _, rfl, ⟨Q2.out, old_new _ _, rfl, irow_nil _ _, fun y hy => by cases hy⟩⟩
  case round =>
    obtain ⟨i, S, T, R, E, hi2, rfl, hol⟩ := hrel
    obtain ⟨va, vc, rfl, hvc, hvm⟩ := hol.r.len
    have HOL : Hid (Ol w0 (1 + r) p g (3 * i) (.slice va R.length vc) wr S T R E) := hol
    have hbw := hol.q.bel
    by_cases hgo : i < L.length ∧ i < 200
    · obtain ⟨hlt, hlt2⟩ := hgo
      have d1 : decide ((i : Int) < (L.length : Int)) = true := by simp; omega
      have d2 : decide ((i : Int) < 200) = true := by simp; omega
      have hx : L[i]? = some L[i] := by simp [hlt]
      have hxb := hLb L[i] (List.getElem_mem hlt)
      generalize L[i] = xx at hx hxb
      obtain ⟨bl, off, rfl, hbl, hcells⟩ := hL.resolve_left (fun e => by rw [e] at hlt; simp at hlt)
      have d0 : wr.cell? ⟨bl, off + i, none⟩ = some (.int .u8 xx) := by
        have := hcells i xx hx 0 (.int .u8 xx) rfl
        rw [Nat.mul_one, Nat.add_zero] at this
        exact (hbw.cell (p := ⟨bl, off + i, none⟩) hbl).trans this
      obtain ⟨xn, rfl⟩ : ∃ xn : Nat, xx = (xn : Int) := ⟨xx.toNat, by have := hxb.1; omega⟩
      have hxn : xn ≤ 255 := by have := hxb.2; omega
      have hTl : R.length ≤ 64 := by
        rw [hol.t, hol.o.T]
        have h1 := hol.q.ok.len
        have h2 := hol.q.ok.n.2
        simp [ints]
        omega
      have hk30 : xn % 30 < (D0 30).n := Nat.mod_lt _ (by decide)
      have hst := old_step hol.o hol.q.ok (show fine (D0 30) from ⟨by decide, by decide⟩) (xn % 30) hk30
      have c1 := hol.q.pin (by omega) ((xn % 30 : Nat) : Int)
      clear hol hcells hx hxb hk30
      go_upto_region 11 with fail
      rw [show ((xn : Int)) % 30 = ((xn % 30 : Nat) : Int) by omega]
      clear d0
      generalize xn % 30 = k at *
      obtain ⟨e1, e2, o3⟩ := hst
      rw [e1] at c1
      generalize hS1 : pinS S (k : Int) = P1 at *
      clear hS1
      go_wp2_with fail
      refine c1.mono ?_
      rintro e w3 ⟨rfl, q3⟩
      clear c1 e1
      have c2 := q3.unpin (by omega) (k : Int)
      rw [e2] at c2
      generalize hS2 : unpinS P1.2 (k : Int) = P2 at *
      clear hS2 q3 e2
      go_wp2_with fail
      refine c2.mono ?_
      rintro e w4 ⟨rfl, q4⟩
      clear c2
      have hrow4 : IRow w4 w0.heap.size (.slice va R.length vc) R := rowE_kept HOL.out.r (fun y hy => q4.at (HOL.out.e y hy))
      have Q4 : Hid (Q1 w0 w4 p g (3 * i + 2 + 1) P2.2 E) := q4
      have O3 : Hid (Old (1 + r) (D0 30) P2.2 (lookT (1 + r) k T)) := o3
      have R4 : Hid (IRow w4 w0.heap.size (.slice va R.length vc) R) := hrow4
      have HLK : Hid (ints (lookT (1 + r) k T) = (k : Int) :: (R.filter (notK k)).take r) := by
        show _ = _
        rw [ints_look, ← HOL.out.t]
        congr 2
        omega
      clear q4 o3 hrow4
      go_wp2_with fail
      go_loopw [15, 16] (fun sv si wq => ∃ (j : Nat) (O : List Int), j ≤ R.length ∧ si = .int .i64 (j : Int) ∧ IRow wq w4.heap.size sv O ∧ Hid (O = (k : Int) :: (R.take j).filter (notK k)) ∧ O.length ≤ 1 + r ∧ Below w4.heap.size w4 wq) (fun _ si _ => R.length - (intOf si).toNat)
      case atStart =>
        exact ⟨0, [(k : Int)], Nat.zero_le _, rfl, irow_one _ _, rfl, by simp, below_alloc1 _ _⟩
      case round =>
        obtain ⟨j, O, hj, rfl, hout, HO, hlo, hb5⟩ := hrel
        obtain ⟨oa, oc, rfl, hoc, hom⟩ := hout.len
        by_cases hgo2 : j < R.length ∧ O.length < 1 + r
        · obtain ⟨hjl, hFl⟩ := hgo2
          have g1 : decide ((j : Int) < (R.length : Int)) = true := by simp; omega
          have g2 : decide ((O.length : Int) < 1 + (r : Int)) = true := by simp; omega
          have hy : R[j]? = some R[j] := by simp [hjl]
          have htk : R.take (j + 1) = R.take j ++ [R[j]] := by rw [List.take_add_one, hy]; rfl
          generalize R[j] = y at hy htk
          obtain ⟨rb, rc, er, _, _, hrbl, rcell⟩ := R4.out.cell hy
          cases er
          have rcell' := (hb5.cell (p := ⟨rb, j, none⟩) hrbl).trans rcell
          by_cases hyk : y = (k : Int)
          · have hd : (y == (k : Int)) = true := by simpa using hyk
            have HF2 : Hid (O = (k : Int) :: (R.take (j + 1)).filter (notK k)) := by show _ = _; rw [HO.out, htk, List.filter_append, notK_filter, if_pos hyk, List.append_nil]
            clear hyk htk hy rcell
            go_wp2_with fail
            go_roundw
            case rel => exact ⟨j + 1, O, by omega, by go_num, hout, HF2, hlo, hb5⟩
            case measure => simp [intOf]; omega
          · have hd : (y == (k : Int)) = false := by simpa using hyk
            have HF2 : Hid (O ++ [y] = (k : Int) :: (R.take (j + 1)).filter (notK k)) := by show _ = _; rw [HO.out, htk, List.filter_append, notK_filter, if_neg hyk]; rfl
            have hb6 := below2 hb5 (below_alloc1 wr (.cells #[.int .i64 y] 3))
            have hr6 := hout.below' (below_alloc1 wr (.cells #[.int .i64 y] 3))
            clear hyk htk hy rcell
            go_wp2_with (at_builtin; refine wpList_append_int _ rfl _ _ rfl w4.heap.size _ O [y] rfl hr6 ⟨wr.heap.size, 0, none⟩ 1 (by simp; rfl) (one_src _ _ (by simp)) (by simp; omega) hb6.size ?_; intro v' w' hrow' hfr hnew)
            go_roundw
            case rel => exact ⟨j + 1, O ++ [y], by omega, by go_num, hrow', HF2, by simp; omega, hfr.below hb6 hb6.size (fun k e => (hout.blk e).1)⟩
            case measure => simp [intOf]; omega
        · have HOUT : Hid (O = ints (lookT (1 + r) k T)) := by
            show _ = _
            rw [HLK.out]
            have e0 := HO.out
            by_cases hjR : j < R.length
            · have hOl : O.length = 1 + r := by omega
              rw [e0]
              congr 1
              have e1 : R.filter (notK k) = (R.take j).filter (notK k) ++ (R.drop j).filter (notK k) := by rw [← List.filter_append, List.take_append_drop]
              rw [e1, List.take_left']
              rw [e0] at hOl
              simp at hOl
              omega
            · have : R.take j = R := List.take_of_length_le (by omega)
              rw [e0, this]
              congr 1
              rw [List.take_of_length_le]
              rw [e0, this] at hlo
              simp at hlo
              omega
          have q5 := (Q4.out.less (F := []) (fun y hy => by cases hy)).row hb5 hout (Nat.le_refl _)
          have Q5 : Hid (Q1 w0 wr p g (3 * i + 2 + 1) P2.2 (rowE wr (.slice oa O.length oc))) := q5
          have c5 := q5.held
          have hHl : (heldS P2.2).length = O.length := by
            rw [held_len, HOUT.out]
            simp [ints, O3.out.T]
          have HMEM : Hid (∀ y ∈ O, y ∈ heldS P2.2) := fun y hy => by
            rw [HOUT.out] at hy
            unfold ints at hy
            obtain ⟨z, hz, rfl⟩ := List.mem_map.1 hy
            rw [O3.out.T] at hz
            obtain ⟨f, hf, rfl⟩ := List.mem_map.1 (List.mem_reverse.1 hz)
            exact (held_mem _ _).2 ⟨f, hf, rfl⟩
          clear q5
          generalize hHH : heldS P2.2 = HH at *
          clear hHH
          go_wp2_with fail
          all_goals try (exfalso; omega)
          all_goals (
            refine c5.mono ?_
            rintro e w6 ⟨vh, rfl, hrh, hb6⟩
            obtain ⟨ha, hcc, rfl, hhc, _⟩ := hrh.len
            clear c5
            have hbl6 : Hid (∀ b, (Value.slice oa O.length oc).ownBlock = some b → b < wr.heap.size) := fun b e => (hout.blk e).2
            have Q6 : Hid (Q1 w0 w6 p g (3 * i + 2 + 1) P2.2 (rowE wr (.slice oa O.length oc))) := Q5.out.below hb6
            have R6 : Hid (IRow w6 w4.heap.size (.slice oa O.length oc) O) := hout.below' hb6
            have RH : Hid (IRow w6 wr.heap.size (.slice ha HH.length hcc) HH) := hrh
            have hO1 : 1 ≤ O.length := by rw [HO.out]; simp
            go_wp2_with fail
            go_loopw [18] (fun sj wq => ∃ jj : Nat, jj ≤ O.length ∧ sj = .int .i64 (jj : Int) ∧ Below w6.heap.size w6 wq) (fun sj _ => O.length - (intOf sj).toNat)
            case atStart => exact ⟨0, Nat.zero_le _, rfl, Below.refl _ _⟩
            case round =>
              obtain ⟨jj, hjj, rfl, hb7⟩ := hrel
              by_cases hjl : jj < O.length
              · have hjl2 : (jj : Int) < (O.length : Int) := by omega
                have hy : O[jj]? = some O[jj] := by simp [hjl]
                have hyH := HMEM.out O[jj] (List.getElem_mem hjl)
                generalize O[jj] = y at hy hyH
                obtain ⟨ob, oc2, eo, _, _, hobl, ocell⟩ := R6.out.cell hy
                cases eo
                have HY : Hid (y ∈ HH) := hyH
                clear hyH
                go_wp2_with fail
                go_loopw [19, 20] (fun sb sm wz => ∃ (m : Nat) (bb : Bool), m ≤ HH.length ∧ sm = .int .i64 (m : Int) ∧ sb = .bool bb ∧ Hid (bb = true ↔ y ∈ HH.take m) ∧ Below w6.heap.size w6 wz) (fun _ sm _ => HH.length - (intOf sm).toNat)
                case atStart => exact ⟨0, false, Nat.zero_le _, rfl, rfl, by show _ ↔ _; simp, hb7⟩
                case round =>
                  obtain ⟨m, bb, hm, rfl, rfl, HB, hb8⟩ := hrel
                  have ocell' := (hb8.cell (p := ⟨ob, jj, none⟩) hobl).trans ocell
                  by_cases hml : m < HH.length
                  · have hml2 : (m : Int) < (HH.length : Int) := by omega
                    have hz : HH[m]? = some HH[m] := by simp [hml]
                    generalize HH[m] = z at hz
                    obtain ⟨hbk, hc2, eh, _, _, hhbl, hcell⟩ := RH.out.cell hz
                    cases eh
                    have hcell' := (hb8.cell (p := ⟨hbk, m, none⟩) hhbl).trans hcell
                    have hstep := mem_take_step (y := y) hz
                    cases bb with
                    | true =>
                      have HB2 : Hid (y ∈ HH.take (m + 1)) := hstep.2 (Or.inl (HB.out.1 rfl))
                      clear hstep hz hcell hy
                      go_wp2_with fail
                      go_quiet (fail)
                      go_wp2_with fail
                      go_roundw
                      case rel => exact ⟨m + 1, true, by omega, by go_num, rfl, ⟨fun _ => HB2.out, fun _ => rfl⟩, below2 hb8 (belowDrewN _ _)⟩
                      case measure => simp [intOf]; omega
                    | false =>
                      have hnb : ¬ y ∈ HH.take m := fun q => by have := HB.out.2 q; cases this
                      by_cases hzy : z = y
                      · have hd : (z == y) = true := by simpa using hzy
                        have HB2 : Hid (y ∈ HH.take (m + 1)) := hstep.2 (Or.inr hzy.symm)
                        clear hstep hz hcell hzy hy hnb
                        go_wp2_with fail
                        go_quiet (fail)
                        go_wp2_with fail
                        go_roundw
                        case rel => exact ⟨m + 1, true, by omega, by go_num, rfl, ⟨fun _ => HB2.out, fun _ => rfl⟩, below2 hb8 (belowDrewN _ _)⟩
                        case measure => simp [intOf]; omega
                      · have hd : (z == y) = false := by simpa using hzy
                        have HB2 : Hid (false = true ↔ y ∈ HH.take (m + 1)) := by
                          show _ ↔ _
                          rw [hstep]
                          exact ⟨fun q => (by cases q), fun q => (q.elim (fun q => absurd q hnb) (fun q => absurd q.symm hzy))⟩
                        clear hstep hz hcell hzy hy hnb
                        go_wp2_with fail
                        go_quiet (fail)
                        go_wp2_with fail
                        go_roundw
                        case rel => exact ⟨m + 1, false, by omega, by go_num, rfl, HB2, below2 hb8 (belowDrewN _ _)⟩
                        case measure => simp [intOf]; omega
                  · obtain rfl : m = HH.length := by omega
                    obtain rfl : bb = true := HB.out.2 (by rw [List.take_length]; exact HY.out)
                    clear hy
                    go_wp2_with fail
                    go_roundw
                    case rel => exact ⟨jj + 1, by omega, by go_num, hb8⟩
                    case measure => simp [intOf]; omega
              · obtain rfl : jj = O.length := by omega
                go_wp2_with fail
                go_roundw
                case rel =>
                  refine ⟨i + 1, P2.2, lookT (1 + r) k T, O, _, by omega, by go_num, ⟨(Q6.out.below hb7).mono (by omega), O3.out, HOUT.out, (R6.out.below' hb7).mono Q4.out.bel.size, fun y hy => ?_⟩⟩
                  rw [rowE_below R6.out hb7, rowE_below hout hb6] at hy
                  exact hy
                case measure => simp [intOf]; omega)
    · have cW := wakes_any wr
      clear hol
      go_wp2_with fail
      all_goals try (exfalso; omega)
      all_goals (
        refine cW.mono ?_
        rintro e w9 ⟨rfl, hb9⟩
        go_wp2_with fail
        go_ret
        exact ⟨rfl, below2 hbw hb9⟩)

set_option maxRecDepth 100000 in
theorem poolOldest_any {H : Type} {enc : TypeId × Value → H} {base : Nat} {d : DataW H} {ps : List MemPlace} (fr : Int) (v : Value) (W : World) (hfr : -9223372036854775808 ≤ fr ∧ fr ≤ 9223372036854775807) (hv : Value.okWide Try.prog W .any base 45 v) (h : DataW.Trod enc Try.prog W 0 (fun _ => true) true 45 v d ps) :
    Calls Try.prog 6 #[.int .i64 fr, v] W fun e w' => e = .returned (.bool true) ∧ Below W.heap.size W w' := by
  obtain ⟨a, L, c, rfl, h1, h2, h3, h4⟩ := open_u8s hv h
  exact poolOldest_walk fr a L c W hfr h1 h4 h2 h3
end Go.Proofs.Ytghocbaafdnddaa

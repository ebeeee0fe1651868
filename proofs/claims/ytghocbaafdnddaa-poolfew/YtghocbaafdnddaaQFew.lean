/- PoolFew: the walk. -/
import Derived.Test.YtghocbaafdnddaaQFewMath
import Derived.Test.YtghocbaafdnddaaQOldest
namespace Go.Proofs.Ytghocbaafdnddaa
open Go.RowKit

/-- How often each page is pinned, as the law has it. -/
def parr (P : Nat → Nat) : Array Value := ((List.range 40).map (fun j => Value.int .i64 (P j : Int))).toArray
def pobj (P : Nat → Nat) : Obj := .cells (parr P) 46 (0, 0)
theorem pobj_cell {w : World} {b j : Nat} {P : Nat → Nat} (h : w.heap[b]? = some (pobj P)) (hj : j < 40) : w.cell? ⟨b, j, none⟩ = some (.int .i64 (P j : Int)) := by
  simp [World.cell?, h, pobj, parr, hj]
theorem pobj_free {w : World} {b : Nat} {P : Nat → Nat} (h : w.heap[b]? = some (pobj P)) (o : Nat) : w.frozen? ⟨b, o, none⟩ = false := by simp [World.frozen?, h, pobj]
theorem pobj_set {w : World} {b j : Nat} {P : Nat → Nat} (h : w.heap[b]? = some (pobj P)) (_hj : j < 40) (v : Nat) : (w.setCell ⟨b, j, none⟩ (.int .i64 (v : Int))).heap[b]? = some (pobj (putP P j v)) := by
  have := heap_setCell_same w b j _ _ (.int .i64 (v : Int)) h
  rw [this]
  unfold pobj parr
  congr 2
  rw [List.setIfInBounds_toArray]
  congr 1
  apply List.ext_getElem?
  intro i
  rw [List.getElem?_set]
  by_cases e : j = i
  · subst e
    simp [_hj, putP]
  · rw [if_neg e]
    by_cases hi : i < 40
    · simp [hi, putP, show i ≠ j from fun z => e z.symm]
    · simp [hi]

structure Fe (W : World) (n p g bd pb : Nat) (wr : World) (S : St) (P : Nat → Nat) : Prop where
  q : Q1 W wr p g bd S [(pb, pobj P)]
  f : Fw n (D0 40) S P

set_option maxHeartbeats 12800000 in
set_option maxRecDepth 100000 in
theorem poolFew_walk (fr : Int) (a : Option Addr) (L : List Int) (c : Nat) (w : World) (hfr : i64B fr) (hL : SlG w a 1 (fun x => [.int .u8 x]) L) (hLb : ∀ x ∈ L, u8B x) (_hc : L.length ≤ c) (hcm : c ≤ maxLen) :
    Calls Try.prog 4 #[.int .i64 fr, .slice a L.length c] w fun e w' => e = .returned (.bool true) ∧ Below w.heap.size w w' := by
  have hcm2 : (L.length : Int) ≤ 9223372036854775807 := by unfold maxLen at hcm; omega
  have cM := mod_any fr 8 w hfr.1 hfr.2 (by decide) (by decide)
  go_enter Try.func4, Try.ntmps4
  go_wp2_with fail
  refine cM.mono ?_
  rintro e w0 ⟨r, rfl, hr, hw0⟩
  subst hw0
  clear cM
  have cN := new_any 40 w0 (by decide) (by decide)
  go_wp2_with fail
  refine cN.mono ?_
  rintro e w1 ⟨g, gs, rfl, d1, b1⟩
  clear cN
  have cP := q1_new (n := 1 + r) (by omega) (by omega) d1 (inv_new 40 (by decide) (by decide)) b1
  rw [show ((1 + r : Nat) : Int) = 1 + (r : Int) by omega] at cP
  clear d1 b1
  go_wp2_with fail
  refine cP.mono ?_
  rintro e w2 ⟨p, rfl, q2⟩
  clear cP
  have Q2 : Hid (Q1 w0 w2 p g 0 ⟨1 + r, [], 0, 0, D0 40⟩ []) := q2
  have hpbW : w0.heap.size ≤ w2.heap.size := q2.bel.size
  clear q2
  go_wp2_with fail
  go_loopw [11] (fun si wr => ∃ (i : Nat) (S : St) (P : Nat → Nat), i ≤ 200 ∧ si = .int .i64 (i : Int) ∧ Fe w0 (1 + r) p g (3 * i) w2.heap.size wr S P) (fun si _ => 200 - (intOf si).toNat)
  case atStart => exact ⟨0, _, fun _ => 0, Nat.zero_le _, rfl, ⟨Q2.out.alloc (pobj (fun _ => 0)), few_new _ _⟩⟩
  case round =>
    obtain ⟨i, S, P, hi2, rfl, hfe⟩ := hrel
    have HFE : Hid (Fe w0 (1 + r) p g (3 * i) w2.heap.size wr S P) := hfe
    have hbw := hfe.q.bel
    generalize w2.heap.size = pb at *
    by_cases hgo : i < L.length ∧ i < 200
    · obtain ⟨hlt, hlt2⟩ := hgo
      have hx : L[i]? = some L[i] := by simp [hlt]
      have hxb := hLb L[i] (List.getElem_mem hlt)
      generalize L[i] = xx at hx hxb
      obtain ⟨bl, off, rfl, hbl, hcells⟩ := hL.resolve_left (fun e => by rw [e] at hlt; simp at hlt)
      have d0 : wr.cell? ⟨bl, off + i, none⟩ = some (.int .u8 xx) := by
        have := hcells i xx hx 0 (.int .u8 xx) rfl
        rw [Nat.mul_one, Nat.add_zero] at this
        exact (hbw.cell (p := ⟨bl, off + i, none⟩) hbl).trans this
      obtain ⟨xn, rfl⟩ : ∃ xn : Nat, xx = (xn : Int) := ⟨xx.toNat, by have := hxb.1; omega⟩
      have hxn : xn ≤ 255 := by have := hxb.2; omega
      have hk40 : xn % 40 < (D0 40).n := Nat.mod_lt _ (by decide)
      have hk4 : xn % 40 < 40 := Nat.mod_lt _ (by decide)
      have hpo := hfe.q.at (k := pb) (o := pobj P) (by simp)
      have hPb : P (xn % 40) ≤ 3 * i := by
        by_cases q : P (xn % 40) = 0
        · omega
        · obtain ⟨f, hf, e⟩ := (held_mem S _).1 (few_held hfe.f _ q)
          have e2 : f.pg = xn % 40 := by omega
          rw [← e2, (hfe.f.fr f hf).2]
          exact (hfe.q.ok.pg f hf).2.2
      have hpc := pobj_cell hpo hk4
      have hpz := pobj_free hpo (xn % 40)
      have HPO : Hid (wr.heap[pb]? = some (pobj P)) := hpo
      clear hcells hx hxb hpo
      go_upto_region 11 with fail
      rw [show ((xn : Int)) % 40 = ((xn % 40 : Nat) : Int) by omega]
      generalize hkk : xn % 40 = k at *
      clear hkk
      by_cases harm : P k ≠ 0 ∧ 128 ≤ xn
      · obtain ⟨hP, hx128⟩ := harm
        obtain ⟨e1, f5⟩ := few_unpin hfe.f hfe.q.ok k hP
        have c4 := hfe.q.unpin (by omega) (k : Int)
        rw [e1] at c4
        have hP2 : 0 < ((P k : Nat) : Int) := by omega
        have hx2 : 128 ≤ (xn : Int) := by omega
        clear hfe e1
        generalize hS5 : (unpinS S (k : Int)).2 = S5 at *
        clear hS5
        have HF5 : Hid (Fw (1 + r) (D0 40) S5 (putP P k (P k - 1))) := f5
        clear f5
        generalize hP5 : putP P k (P k - 1) = P5 at *
        have HP5 : Hid (putP P k (P k - 1) = P5) := hP5
        clear hP5
        obtain ⟨pk, HPK⟩ : ∃ pk, Hid (P k = pk + 1) := ⟨P k - 1, by show _ = _; omega⟩
        have e7 : ((P k : Nat) : Int) = (pk : Int) + 1 := by rw [HPK.out]; omega
        rw [e7] at hpc hP2
        have hpk : pk ≤ 600 := by have := HPK.out; omega
        clear hP e7
        go_wp2_with fail
        refine c4.mono ?_
        rintro e w4 ⟨rfl, q4⟩
        clear c4
        have hpo4 := q4.at (k := pb) (o := pobj P) (by simp)
        have hpc4 := pobj_cell hpo4 hk4
        rw [HPK.out, show (((pk + 1 : Nat)) : Int) = (pk : Int) + 1 by omega] at hpc4
        have hpz4 := pobj_free hpo4 k
        have q5 := q4.set (Nat.le_trans hpbW (Nat.le_refl _)) (fun y hy => by cases hy) (fr_set w4 pb k (.int .i64 (pk : Int))) (pobj_set hpo4 hk4 pk)
        rw [show putP P k pk = P5 by rw [← HP5.out, HPK.out]; rfl] at q5
        have Q5 : Hid (Q1 w0 (w4.setCell ⟨pb, k, none⟩ (.int .i64 (pk : Int))) p g (3 * i + 1) S5 [(pb, pobj P5)]) := q5
        clear q4 q5 hpo4
        go_upto_region 20 with fail
        generalize w4.setCell ⟨pb, k, none⟩ (.int .i64 (pk : Int)) = w5 at *
        clear hpc4 hpz4 hpc hpz d0
        have Q5 : Hid (Q1 w0 w5 p g (3 * i + 2) S5 [(pb, pobj P5)]) := Q5.out.mono (by omega)
        have c5 := Q5.out.held
        go_wp2_with fail
        refine c5.mono ?_
        rintro e w6 ⟨vh, rfl, hrh, hb6⟩
        obtain ⟨ha, hcc, rfl, hhc, _⟩ := hrh.len
        clear c5
        have Q6 : Hid (Q1 w0 w6 p g (3 * i + 2) S5 [(pb, pobj P5)]) := Q5.out.below hb6
        have RH : Hid (IRow w6 w5.heap.size (.slice ha (heldS S5).length hcc) (heldS S5)) := hrh
        have HIN : Hid (∀ j, P5 j ≠ 0 → (j : Int) ∈ heldS S5) := fun j hj => few_held HF5.out j hj
        have hlen : (heldS S5).length ≤ 1 + r := by
          rw [held_len]
          have h1 := Q6.out.ok.len
          rw [HF5.out.n] at h1
          exact h1
        have hlen2 : ((heldS S5).length : Int) ≤ 1 + (r : Int) := by omega
        clear hrh hhc
        generalize heldS S5 = HH at *
        go_wp2_with fail
        go_loopw [16] (fun sj wq => ∃ jj : Nat, jj ≤ 40 ∧ sj = .int .i64 (jj : Int) ∧ Below w6.heap.size w6 wq) (fun sj _ => 40 - (intOf sj).toNat)
        case atStart => exact ⟨0, Nat.zero_le _, rfl, Below.refl _ _⟩
        case round =>
          obtain ⟨jj, hjj, rfl, hb7⟩ := hrel
          by_cases hjl : jj < 40
          · have hjl2 : (jj : Int) < 40 := by omega
            go_wp2_with fail
            go_loopw [17, 18] (fun sb sm wz => ∃ (m : Nat) (bb : Bool), m ≤ HH.length ∧ sm = .int .i64 (m : Int) ∧ sb = .bool bb ∧ Hid (bb = true ↔ (jj : Int) ∈ HH.take m) ∧ Below w6.heap.size w6 wz) (fun _ sm _ => HH.length - (intOf sm).toNat)
            case atStart => exact ⟨0, false, Nat.zero_le _, rfl, rfl, by show _ ↔ _; simp, hb7⟩
            case round =>
              obtain ⟨m, bb, hm, rfl, rfl, HB, hb8⟩ := hrel
              by_cases hml : m < HH.length
              · have hml2 : (m : Int) < (HH.length : Int) := by omega
                have hz : HH[m]? = some HH[m] := by simp [hml]
                generalize HH[m] = z at hz
                obtain ⟨hbk, hc2, eh, _, _, hhbl, hcell⟩ := RH.out.cell hz
                cases eh
                have hcell' := (hb8.cell (p := ⟨hbk, m, none⟩) hhbl).trans hcell
                have hstep := mem_take_step (y := (jj : Int)) hz
                cases bb with
                | true =>
                  have HB2 : Hid ((jj : Int) ∈ HH.take (m + 1)) := hstep.2 (Or.inl (HB.out.1 rfl))
                  clear hstep hz hcell
                  go_wp2_with fail
                  go_roundw
                  case rel => exact ⟨m + 1, true, by omega, by go_num, rfl, ⟨fun _ => HB2.out, fun _ => rfl⟩, hb8⟩
                  case measure => simp [intOf]; omega
                | false =>
                  have hnb : ¬ (jj : Int) ∈ HH.take m := fun q => by have := HB.out.2 q; cases this
                  by_cases hzy : z = (jj : Int)
                  · have hd : (z == (jj : Int)) = true := by simpa using hzy
                    have HB2 : Hid ((jj : Int) ∈ HH.take (m + 1)) := hstep.2 (Or.inr hzy.symm)
                    clear hstep hz hcell hzy hnb
                    go_wp2_with fail
                    go_roundw
                    case rel => exact ⟨m + 1, true, by omega, by go_num, rfl, ⟨fun _ => HB2.out, fun _ => rfl⟩, hb8⟩
                    case measure => simp [intOf]; omega
                  · have hd : (z == (jj : Int)) = false := by simpa using hzy
                    have HB2 : Hid (false = true ↔ (jj : Int) ∈ HH.take (m + 1)) := by
                      show _ ↔ _
                      rw [hstep]
                      exact ⟨fun q => (by cases q), fun q => (q.elim (fun q => absurd q hnb) (fun q => absurd q.symm hzy))⟩
                    clear hstep hz hcell hzy hnb
                    go_wp2_with fail
                    go_roundw
                    case rel => exact ⟨m + 1, false, by omega, by go_num, rfl, HB2, hb8⟩
                    case measure => simp [intOf]; omega
              · obtain rfl : m = HH.length := by omega
                have hpc : wr.cell? ⟨pb, jj, none⟩ = some (.int .i64 (P5 jj : Int)) := (hb8.cell (p := ⟨pb, jj, none⟩) (lt_of_some (Q6.out.at (k := pb) (o := pobj P5) (by simp)))).trans (pobj_cell (Q6.out.at (k := pb) (o := pobj P5) (by simp)) hjl)
                by_cases hP : P5 jj = 0
                · have hpc0 : wr.cell? ⟨pb, jj, none⟩ = some (.int .i64 0) := by rw [hpc, hP]; rfl
                  clear hpc hP
                  go_wp2_with fail
                  go_roundw
                  case rel => exact ⟨jj + 1, by omega, by go_num, hb8⟩
                  case measure => simp [intOf]; omega
                · obtain rfl : bb = true := HB.out.2 (by rw [List.take_length]; exact HIN.out jj hP)
                  have hP2 : 0 < ((P5 jj : Nat) : Int) := by omega
                  generalize P5 jj = pj at *
                  clear hP
                  go_wp2_with fail
                  go_roundw
                  case rel => exact ⟨jj + 1, by omega, by go_num, hb8⟩
                  case measure => simp [intOf]; omega
          · obtain rfl : jj = 40 := by omega
            go_wp2_with fail
            go_roundw
            case rel => exact ⟨i + 1, S5, P5, by omega, by go_num, ⟨(Q6.out.below hb7).mono (by omega), HF5.out⟩⟩
            case measure => simp [intOf]; omega
      · have hneg : ¬ (0 < ((P k : Nat) : Int) ∧ 128 ≤ (xn : Int)) := fun q => harm ⟨by omega, by omega⟩
        have hfp := few_pin hfe.f hfe.q.ok (show fine (D0 40) from ⟨by decide, by decide⟩) k hk40
        have c4 := hfe.q.pin (by omega) (k : Int)
        clear hfe harm
        generalize hP1 : pinS S (k : Int) = P1 at *
        clear hP1
        rcases hfp with ⟨e1, f5⟩ | ⟨e1, f5⟩
        · rw [e1] at c4
          have HF5 : Hid (Fw (1 + r) (D0 40) P1.2 (putP P k (P k + 1))) := f5
          clear f5 e1
          go_wp2_with fail
          all_goals try (exfalso; omega)
          all_goals (
            refine c4.mono ?_
            rintro e w4 ⟨rfl, q4⟩
            clear c4
            have hpo4 := q4.at (k := pb) (o := pobj P) (by simp)
            have hpc4 := pobj_cell hpo4 hk4
            have hpz4 := pobj_free hpo4 k
            have q5 := q4.set (Nat.le_trans hpbW (Nat.le_refl _)) (fun y hy => by cases hy) (fr_set w4 pb k (.int .i64 ((P k + 1 : Nat) : Int))) (pobj_set hpo4 hk4 (P k + 1))
            rw [show ((P k + 1 : Nat) : Int) = (P k : Int) + 1 by omega] at q5
            have Q5 : Hid (Q1 w0 (w4.setCell ⟨pb, k, none⟩ (.int .i64 ((P k : Int) + 1))) p g (3 * i + 2) P1.2 [(pb, pobj (putP P k (P k + 1)))]) := q5
            clear q4 q5 hpo4
            go_upto_region 20 with fail
            generalize w4.setCell ⟨pb, k, none⟩ (.int .i64 ((P k : Int) + 1)) = w5 at *
            clear hpc4 hpz4 hpc hpz d0 hneg
            generalize putP P k (P k + 1) = P5 at *
            generalize P1.2 = S5 at *
            have c5 := Q5.out.held
            go_wp2_with fail
            refine c5.mono ?_
            rintro e w6 ⟨vh, rfl, hrh, hb6⟩
            obtain ⟨ha, hcc, rfl, hhc, _⟩ := hrh.len
            clear c5
            have Q6 : Hid (Q1 w0 w6 p g (3 * i + 2) S5 [(pb, pobj P5)]) := Q5.out.below hb6
            have RH : Hid (IRow w6 w5.heap.size (.slice ha (heldS S5).length hcc) (heldS S5)) := hrh
            have HIN : Hid (∀ j, P5 j ≠ 0 → (j : Int) ∈ heldS S5) := fun j hj => few_held HF5.out j hj
            have hlen : (heldS S5).length ≤ 1 + r := by
              rw [held_len]
              have h1 := Q6.out.ok.len
              rw [HF5.out.n] at h1
              exact h1
            have hlen2 : ((heldS S5).length : Int) ≤ 1 + (r : Int) := by omega
            clear hrh hhc
            generalize heldS S5 = HH at *
            go_wp2_with fail
            go_loopw [16] (fun sj wq => ∃ jj : Nat, jj ≤ 40 ∧ sj = .int .i64 (jj : Int) ∧ Below w6.heap.size w6 wq) (fun sj _ => 40 - (intOf sj).toNat)
            case atStart => exact ⟨0, Nat.zero_le _, rfl, Below.refl _ _⟩
            case round =>
              obtain ⟨jj, hjj, rfl, hb7⟩ := hrel
              by_cases hjl : jj < 40
              · have hjl2 : (jj : Int) < 40 := by omega
                go_wp2_with fail
                go_loopw [17, 18] (fun sb sm wz => ∃ (m : Nat) (bb : Bool), m ≤ HH.length ∧ sm = .int .i64 (m : Int) ∧ sb = .bool bb ∧ Hid (bb = true ↔ (jj : Int) ∈ HH.take m) ∧ Below w6.heap.size w6 wz) (fun _ sm _ => HH.length - (intOf sm).toNat)
                case atStart => exact ⟨0, false, Nat.zero_le _, rfl, rfl, by show _ ↔ _; simp, hb7⟩
                case round =>
                  obtain ⟨m, bb, hm, rfl, rfl, HB, hb8⟩ := hrel
                  by_cases hml : m < HH.length
                  · have hml2 : (m : Int) < (HH.length : Int) := by omega
                    have hz : HH[m]? = some HH[m] := by simp [hml]
                    generalize HH[m] = z at hz
                    obtain ⟨hbk, hc2, eh, _, _, hhbl, hcell⟩ := RH.out.cell hz
                    cases eh
                    have hcell' := (hb8.cell (p := ⟨hbk, m, none⟩) hhbl).trans hcell
                    have hstep := mem_take_step (y := (jj : Int)) hz
                    cases bb with
                    | true =>
                      have HB2 : Hid ((jj : Int) ∈ HH.take (m + 1)) := hstep.2 (Or.inl (HB.out.1 rfl))
                      clear hstep hz hcell
                      go_wp2_with fail
                      go_roundw
                      case rel => exact ⟨m + 1, true, by omega, by go_num, rfl, ⟨fun _ => HB2.out, fun _ => rfl⟩, hb8⟩
                      case measure => simp [intOf]; omega
                    | false =>
                      have hnb : ¬ (jj : Int) ∈ HH.take m := fun q => by have := HB.out.2 q; cases this
                      by_cases hzy : z = (jj : Int)
                      · have hd : (z == (jj : Int)) = true := by simpa using hzy
                        have HB2 : Hid ((jj : Int) ∈ HH.take (m + 1)) := hstep.2 (Or.inr hzy.symm)
                        clear hstep hz hcell hzy hnb
                        go_wp2_with fail
                        go_roundw
                        case rel => exact ⟨m + 1, true, by omega, by go_num, rfl, ⟨fun _ => HB2.out, fun _ => rfl⟩, hb8⟩
                        case measure => simp [intOf]; omega
                      · have hd : (z == (jj : Int)) = false := by simpa using hzy
                        have HB2 : Hid (false = true ↔ (jj : Int) ∈ HH.take (m + 1)) := by
                          show _ ↔ _
                          rw [hstep]
                          exact ⟨fun q => (by cases q), fun q => (q.elim (fun q => absurd q hnb) (fun q => absurd q.symm hzy))⟩
                        clear hstep hz hcell hzy hnb
                        go_wp2_with fail
                        go_roundw
                        case rel => exact ⟨m + 1, false, by omega, by go_num, rfl, HB2, hb8⟩
                        case measure => simp [intOf]; omega
                  · obtain rfl : m = HH.length := by omega
                    have hpc : wr.cell? ⟨pb, jj, none⟩ = some (.int .i64 (P5 jj : Int)) := (hb8.cell (p := ⟨pb, jj, none⟩) (lt_of_some (Q6.out.at (k := pb) (o := pobj P5) (by simp)))).trans (pobj_cell (Q6.out.at (k := pb) (o := pobj P5) (by simp)) hjl)
                    by_cases hP : P5 jj = 0
                    · have hpc0 : wr.cell? ⟨pb, jj, none⟩ = some (.int .i64 0) := by rw [hpc, hP]; rfl
                      clear hpc hP
                      go_wp2_with fail
                      go_roundw
                      case rel => exact ⟨jj + 1, by omega, by go_num, hb8⟩
                      case measure => simp [intOf]; omega
                    · obtain rfl : bb = true := HB.out.2 (by rw [List.take_length]; exact HIN.out jj hP)
                      have hP2 : 0 < ((P5 jj : Nat) : Int) := by omega
                      generalize P5 jj = pj at *
                      clear hP
                      go_wp2_with fail
                      go_roundw
                      case rel => exact ⟨jj + 1, by omega, by go_num, hb8⟩
                      case measure => simp [intOf]; omega
              · obtain rfl : jj = 40 := by omega
                go_wp2_with fail
                go_roundw
                case rel => exact ⟨i + 1, S5, P5, by omega, by go_num, ⟨(Q6.out.below hb7).mono (by omega), HF5.out⟩⟩
                case measure => simp [intOf]; omega
          )
        · rw [e1] at c4
          have HF5 : Hid (Fw (1 + r) (D0 40) P1.2 P) := f5
          clear f5 e1
          go_wp2_with fail
          all_goals try (exfalso; omega)
          all_goals (
            refine c4.mono ?_
            rintro e w5 ⟨rfl, q5⟩
            clear c4
            have Q5 : Hid (Q1 w0 w5 p g (3 * i + 2) P1.2 [(pb, pobj P)]) := q5
            clear q5
            go_upto_region 20 with fail
            clear hpc hpz d0 hneg HPO hPb
            generalize P = P5 at *
            generalize P1.2 = S5 at *
            have c5 := Q5.out.held
            go_wp2_with fail
            refine c5.mono ?_
            rintro e w6 ⟨vh, rfl, hrh, hb6⟩
            obtain ⟨ha, hcc, rfl, hhc, _⟩ := hrh.len
            clear c5
            have Q6 : Hid (Q1 w0 w6 p g (3 * i + 2) S5 [(pb, pobj P5)]) := Q5.out.below hb6
            have RH : Hid (IRow w6 w5.heap.size (.slice ha (heldS S5).length hcc) (heldS S5)) := hrh
            have HIN : Hid (∀ j, P5 j ≠ 0 → (j : Int) ∈ heldS S5) := fun j hj => few_held HF5.out j hj
            have hlen : (heldS S5).length ≤ 1 + r := by
              rw [held_len]
              have h1 := Q6.out.ok.len
              rw [HF5.out.n] at h1
              exact h1
            have hlen2 : ((heldS S5).length : Int) ≤ 1 + (r : Int) := by omega
            clear hrh hhc
            generalize heldS S5 = HH at *
            go_wp2_with fail
            go_loopw [16] (fun sj wq => ∃ jj : Nat, jj ≤ 40 ∧ sj = .int .i64 (jj : Int) ∧ Below w6.heap.size w6 wq) (fun sj _ => 40 - (intOf sj).toNat)
            case atStart => exact ⟨0, Nat.zero_le _, rfl, Below.refl _ _⟩
            case round =>
              obtain ⟨jj, hjj, rfl, hb7⟩ := hrel
              by_cases hjl : jj < 40
              · have hjl2 : (jj : Int) < 40 := by omega
                go_wp2_with fail
                go_loopw [17, 18] (fun sb sm wz => ∃ (m : Nat) (bb : Bool), m ≤ HH.length ∧ sm = .int .i64 (m : Int) ∧ sb = .bool bb ∧ Hid (bb = true ↔ (jj : Int) ∈ HH.take m) ∧ Below w6.heap.size w6 wz) (fun _ sm _ => HH.length - (intOf sm).toNat)
                case atStart => exact ⟨0, false, Nat.zero_le _, rfl, rfl, by show _ ↔ _; simp, hb7⟩
                case round =>
                  obtain ⟨m, bb, hm, rfl, rfl, HB, hb8⟩ := hrel
                  by_cases hml : m < HH.length
                  · have hml2 : (m : Int) < (HH.length : Int) := by omega
                    have hz : HH[m]? = some HH[m] := by simp [hml]
                    generalize HH[m] = z at hz
                    obtain ⟨hbk, hc2, eh, _, _, hhbl, hcell⟩ := RH.out.cell hz
                    cases eh
                    have hcell' := (hb8.cell (p := ⟨hbk, m, none⟩) hhbl).trans hcell
                    have hstep := mem_take_step (y := (jj : Int)) hz
                    cases bb with
                    | true =>
                      have HB2 : Hid ((jj : Int) ∈ HH.take (m + 1)) := hstep.2 (Or.inl (HB.out.1 rfl))
                      clear hstep hz hcell
                      go_wp2_with fail
                      go_roundw
                      case rel => exact ⟨m + 1, true, by omega, by go_num, rfl, ⟨fun _ => HB2.out, fun _ => rfl⟩, hb8⟩
                      case measure => simp [intOf]; omega
                    | false =>
                      have hnb : ¬ (jj : Int) ∈ HH.take m := fun q => by have := HB.out.2 q; cases this
                      by_cases hzy : z = (jj : Int)
                      · have hd : (z == (jj : Int)) = true := by simpa using hzy
                        have HB2 : Hid ((jj : Int) ∈ HH.take (m + 1)) := hstep.2 (Or.inr hzy.symm)
                        clear hstep hz hcell hzy hnb
                        go_wp2_with fail
                        go_roundw
                        case rel => exact ⟨m + 1, true, by omega, by go_num, rfl, ⟨fun _ => HB2.out, fun _ => rfl⟩, hb8⟩
                        case measure => simp [intOf]; omega
                      · have hd : (z == (jj : Int)) = false := by simpa using hzy
                        have HB2 : Hid (false = true ↔ (jj : Int) ∈ HH.take (m + 1)) := by
                          show _ ↔ _
                          rw [hstep]
                          exact ⟨fun q => (by cases q), fun q => (q.elim (fun q => absurd q hnb) (fun q => absurd q.symm hzy))⟩
                        clear hstep hz hcell hzy hnb
                        go_wp2_with fail
                        go_roundw
                        case rel => exact ⟨m + 1, false, by omega, by go_num, rfl, HB2, hb8⟩
                        case measure => simp [intOf]; omega
                  · obtain rfl : m = HH.length := by omega
                    have hpc : wr.cell? ⟨pb, jj, none⟩ = some (.int .i64 (P5 jj : Int)) := (hb8.cell (p := ⟨pb, jj, none⟩) (lt_of_some (Q6.out.at (k := pb) (o := pobj P5) (by simp)))).trans (pobj_cell (Q6.out.at (k := pb) (o := pobj P5) (by simp)) hjl)
                    by_cases hP : P5 jj = 0
                    · have hpc0 : wr.cell? ⟨pb, jj, none⟩ = some (.int .i64 0) := by rw [hpc, hP]; rfl
                      clear hpc hP
                      go_wp2_with fail
                      go_roundw
                      case rel => exact ⟨jj + 1, by omega, by go_num, hb8⟩
                      case measure => simp [intOf]; omega
                    · obtain rfl : bb = true := HB.out.2 (by rw [List.take_length]; exact HIN.out jj hP)
                      have hP2 : 0 < ((P5 jj : Nat) : Int) := by omega
                      generalize P5 jj = pj at *
                      clear hP
                      go_wp2_with fail
                      go_roundw
                      case rel => exact ⟨jj + 1, by omega, by go_num, hb8⟩
                      case measure => simp [intOf]; omega
              · obtain rfl : jj = 40 := by omega
                go_wp2_with fail
                go_roundw
                case rel => exact ⟨i + 1, S5, P5, by omega, by go_num, ⟨(Q6.out.below hb7).mono (by omega), HF5.out⟩⟩
                case measure => simp [intOf]; omega
          )
    · have cW := wakes_any wr
      clear hfe
      go_wp2_with fail
      all_goals try (exfalso; omega)
      all_goals (
        refine cW.mono ?_
        rintro e w9 ⟨rfl, hb9⟩
        go_wp2_with fail
        go_ret
        exact ⟨rfl, below2 hbw hb9⟩)

set_option maxRecDepth 100000 in
theorem poolFew_any {H : Type} {enc : TypeId × Value → H} {base : Nat} {d : DataW H} {ps : List MemPlace} (fr : Int) (v : Value) (W : World) (hfr : -9223372036854775808 ≤ fr ∧ fr ≤ 9223372036854775807) (hv : Value.okWide Try.prog W .any base 45 v) (h : DataW.Trod enc Try.prog W 0 (fun _ => true) true 45 v d ps) :
    Calls Try.prog 4 #[.int .i64 fr, v] W fun e w' => e = .returned (.bool true) ∧ Below W.heap.size W w' := by
  obtain ⟨a, L, c, rfl, h1, h2, h3, h4⟩ := open_u8s hv h
  exact poolFew_walk fr a L c W hfr h1 h4 h2 h3
end Go.Proofs.Ytghocbaafdnddaa

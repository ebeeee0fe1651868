/- HeapDown: the walk. -/
import Derived.Test.YtjmdenlocmleiaaGreatHTwo
namespace Go.Proofs.YtjmdenlocmleiaaGreat
open Go.RowKit Go.ChangeShapes Go.WideShapes Go.ChangeAt Go.Deep
open Go.ChangeMaps (open_string shut_string)

set_option maxHeartbeats 12800000 in
set_option maxRecDepth 100000 in
theorem heapDown_on (a0 : Option Addr) (L : List Hp1) (c0 : Nat) (x : Hp1) (rf : Int) (w : World) (hx : x.ok) (hrf : i64B rf) (hL : SlG w a0 3 Hp1.cells L) (hall : ∀ s ∈ L, s.ok) (hlen : L.length ≤ maxLen) :
    Calls Tryz.prog 4 #[.slice a0 L.length c0, .agg #[.int .i64 x.kind, .int .i64 x.place, .string x.row], .int .i64 rf] w fun e w' => e = .returned (.bool true) ∧ Below w.heap.size w w' := by
  have cW := hwakes_any
  have HW0 := (show Hid _ from below_alloc1 w (stepObj x))
  have hX0 : (w.alloc (stepObj x)).heap[w.heap.size]? = some (stepObj x) := heap_alloc_new w _
  have hL2 := hL.kept (below_alloc1 w (stepObj x))
  have hsz : w.heap.size < (w.alloc (stepObj x)).heap.size := by simp
  have cM := made_any 6 2 (by decide) (by decide) (w.alloc (stepObj x))
  have hpx := hx.pB
  clear hL
  obtain ⟨kx, px, rx⟩ := x
  simp only at hpx
  clear hx
  go_enter Tryz.func4, Tryz.ntmps4
  go_upto_region 1 with fail
  generalize hW3 : w.alloc (.cells #[.int .i64 kx, .int .i64 px, .string rx] 34) = W
  have e3 : w.alloc (stepObj ⟨kx, px, rx⟩) = W := hW3
  rw [e3] at HW0 hX0 hL2 hsz cM
  clear hW3 e3
  obtain ⟨x0, x1, x2⟩ := stepCells hX0
  simp only at x0 x1 x2
  have XC : Hid (∀ U : World, Below W.heap.size W U → U.cell? ⟨w.heap.size, 0, none⟩ = some (.int .i64 kx) ∧ U.cell? ⟨w.heap.size, 1, none⟩ = some (.int .i64 px) ∧ U.cell? ⟨w.heap.size, 2, none⟩ = some (.string rx)) := fun U b => by
    have := stepCells (w := U) (X := w.heap.size) (s := ⟨kx, px, rx⟩) ((b.block _ hsz).trans hX0)
    exact this
  have HFin : Hid (∀ U : World, Below W.heap.size W U → Below w.heap.size w U) := fun U b => below2 HW0.out b
  have cF := fun w1 (b : Below W.heap.size W w1) => fair_any a0 L c0 w1 (hL2.kept b) hlen
  clear hX0 HW0 hsz
  go_wp2_with fail
  refine cM.mono ?_
  rintro e w1 ⟨g, p, hb, rfl, t1⟩
  have cR := rnew_heap 6 (by decide) w1
  have T1 := (show Hid _ from t1)
  clear cM t1 x0 x1 x2
  go_wp2_with fail
  refine cR.mono ?_
  rintro e w2 ⟨r, rfl, rh, b2⟩
  have d2 := Du.make T1.out (vok_new 6 (by decide) (by decide)) rh b2
  have cF2 := cF w2 d2.bel
  obtain ⟨y0, y1, y2⟩ := XC.out w2 d2.bel
  clear cR rh b2 cF T1
  go_wp2_with fail
  refine cF2.mono ?_
  rintro e w3 ⟨rfl, hw3⟩
  rw [hw3]
  clear hw3 cF2
  have cW2 := cW w2
  have HB2 : Hid (Below W.heap.size W w2) := d2.bel
  cases hfair : fairB L with
  | false =>
    clear d2 cW hfair
    go_wp2_with fail
    refine cW2.mono ?_
    rintro e w5 ⟨rfl, b5⟩
    clear cW2
    go_wp2_with fail
    go_ret
    exact ⟨rfl, HFin.out _ (below2 HB2.out b5)⟩
  | true =>
    by_cases hrx : 2000 < rx.size
    · have hrx2 : decide ((2000 : Int) < (rx.size : Int)) = true := by simp; omega
      clear d2 cW hfair hrx
      go_wp2_with fail
      refine cW2.mono ?_
      rintro e w5 ⟨rfl, b5⟩
      clear cW2
      go_wp2_with fail
      go_ret
      exact ⟨rfl, HFin.out _ (below2 HB2.out b5)⟩
    · have hrx2 : decide ((2000 : Int) < (rx.size : Int)) = false := by simp; omega
      have hrx3 : rx.size ≤ 1000000 := by omega
      obtain ⟨hl1, hl2⟩ := fair_of hfair
      have HR : Hid (∀ s ∈ L, s.row.size ≤ 2000) := hl2
      have HA : Hid (∀ s ∈ L, s.ok) := hall
      have HQ0 : Hid (r.q = r.q) := rfl
      clear hfair hl2 hall hrx HB2 cW2 y0 y1
      generalize hrq : r.q = rq at *
      have D2' := (show Hid _ from d2)
      clear d2
      go_wp2_with fail
      go_loopw [12] (fun si wr => ∃ (i : Nat) (V : Nat → ByteArray) (r : RH), i ≤ L.length ∧ si = .int .i64 (i : Int) ∧ Hid (r.q = rq) ∧ Du W wr hb p g (50 * i) 6 2 V (runH 6 (L.take i)) True r (runH 6 (L.take i)) (fun _ => False)) (fun si _ => L.length - (intOf si).toNat)
      case atStart => exact ⟨0, _, r, Nat.zero_le _, rfl, hrq, D2'.out⟩
      case round =>
        clear D2' hrq y2
        obtain ⟨i, V, r, hi, rfl, HQ, d⟩ := hrel
        have hbel := d.bel
        by_cases hlt : i < L.length
        · as_aux_lemma =>
          have hlt2 : (i : Int) < (L.length : Int) := by omega
          have hx : L[i]? = some L[i] := by simp [hlt]
          generalize L[i] = s at hx
          have hsz := HR.out s (List.mem_of_getElem? hx)
          have hok := HA.out s (List.mem_of_getElem? hx)
          have hpp : i64B s.place := hok.pB
          have hstep := runH_succ 6 L i s hx
          rcases hL2 with hL2 | ⟨b, off, rfl, hlb, hcell⟩
          · rw [hL2] at hlt; simp at hlt
          have S0 : Hid (W.cell? ⟨b, off + i * 3, none⟩ = some (.int .i64 s.kind)) := hcell i s hx 0 _ rfl
          have S1 : Hid (W.cell? ⟨b, off + i * 3 + 1, none⟩ = some (.int .i64 s.place)) := hcell i s hx 1 _ rfl
          have S2 : Hid (W.cell? ⟨b, off + i * 3 + 2, none⟩ = some (.string s.row)) := hcell i s hx 2 _ rfl
          have s0 := (hbel.cell (p := ⟨b, _, none⟩) hlb).trans S0.out
          have s1 := (hbel.cell (p := ⟨b, _, none⟩) hlb).trans S1.out
          have s2 := (hbel.cell (p := ⟨b, _, none⟩) hlb).trans S2.out
          have hq3 := HQ.out
          obtain ⟨kk, pp, row⟩ := s
          simp only at s0 s1 s2 hsz hpp S0 S1 S2
          clear hcell hx hbel hok S0
          generalize hHi : runH 6 (L.take i) = Hi at *
          have HST := (show Hid _ from hstep)
          clear hstep hHi
          by_cases k0 : kk = 0
          · as_aux_lemma =>
            subst k0
            have cI := d.insert (by omega) (by decide) row (by omega)
            clear d
            go_wp2_with fail
            refine cI.mono ?_
            rintro e w4 ⟨K, E, rfl, q⟩
            rcases q with ⟨_, _, nz, _⟩ | ⟨_, _, V4, d4, _⟩
            · exact absurd trivial nz
            have t0 := (d4.bel.cell (p := ⟨b, _, none⟩) hlb).trans S1.out
            have t2 := (d4.bel.cell (p := ⟨b, _, none⟩) hlb).trans S2.out
            have cR := d4.rinsert row (by omega)
            rw [hq3] at cR
            clear cI d4
            go_wp2_with fail
            refine cR.mono ?_
            rintro e w5 ⟨rfl, r9, hq9, d9, _⟩
            have D9 := (show Hid _ from d9)
            have HQ9 : Hid (r9.q = rq) := hq9
            clear cR d9 hq9 s0 s1 s2 t0 t2
            go_wp2_with fail
            go_roundw
            case rel => exact ⟨i + 1, _, _, by omega, by go_num, HQ9, by rw [HST.out, stepH0]; exact D9.out.mono (by omega)⟩
            case measure => simp [intOf]; omega
          have e0k : (kk == 0) = false := by simpa using k0
          by_cases k1 : kk = 1
          · as_aux_lemma =>
            subst k1
            clear k0
            have cI := d.drew.put (by omega) (by decide) pp row (by omega)
            clear d
            go_wp2_with fail
            apply wp_end (R := fun U => ∃ V4, Du W U hb p g (50 * i + 9) 6 2 V4 (putHH 6 Hi pp row) True r Hi (fun _ => False))
            case h =>
              go_region_held3 (fun U => U.cell? ⟨b, off + i * 3 + 1, none⟩ = some (.int .i64 pp) ∧ U.cell? ⟨b, off + i * 3 + 2, none⟩ = some (.string row)) (first | exact hB | exact ⟨s1, s2⟩ | go_keep)
                (first
                  | (go_at_call 13; refine cI.mono ?_; rintro e w4 ⟨Y, rfl, q⟩; rcases q with ⟨_, nz, _⟩ | ⟨_, V4, d4, _⟩; exact absurd trivial nz; have hB := (⟨(d4.bel.cell (p := ⟨b, _, none⟩) hlb).trans S1.out, (d4.bel.cell (p := ⟨b, _, none⟩) hlb).trans S2.out⟩ : _ ∧ _)))
              all_goals exact EndQ.mk ⟨V4, d4⟩
            rintro w4 ⟨V4, d4⟩
            have t1 := (d4.bel.cell (p := ⟨b, _, none⟩) hlb).trans S1.out
            have t2 := (d4.bel.cell (p := ⟨b, _, none⟩) hlb).trans S2.out
            have cR := d4.drew.rput pp hpp row (by omega)
            rw [hq3] at cR
            clear cI d4 s0 s1 s2
            go_wp2_with fail
            apply wp_end (R := fun U => ∃ r9 : RH, r9.q = rq ∧ Du W U hb p g (50 * i + 9) 6 2 V4 (putHH 6 Hi pp row) True r9 (putHH 6 Hi pp row) (fun _ => False))
            case h =>
              go_region_held3 (fun U => U.cell? ⟨b, off + i * 3 + 1, none⟩ = some (.int .i64 pp) ∧ U.cell? ⟨b, off + i * 3 + 2, none⟩ = some (.string row)) (first | exact hB | exact ⟨t1, t2⟩ | go_keep)
                (first
                  | (go_at_call 14; refine cR.mono ?_; rintro e w5 ⟨rfl, r9, hq9, d9, _⟩; have hB := (⟨(d9.bel.cell (p := ⟨b, _, none⟩) hlb).trans S1.out, (d9.bel.cell (p := ⟨b, _, none⟩) hlb).trans S2.out⟩ : _ ∧ _)))
              all_goals exact EndQ.mk ⟨r9, hq9, d9⟩
            rintro w5 ⟨r9, hq9, d9⟩
            have D9 := (show Hid _ from d9)
            have HQ9 : Hid (r9.q = rq) := hq9
            clear cR d9 hq9 t1 t2
            go_wp2_with fail
            go_roundw
            case rel => exact ⟨i + 1, _, _, by omega, by go_num, HQ9, by rw [HST.out, stepH1]; exact D9.out.mono (by omega)⟩
            case measure => simp [intOf]; omega
          have e1k : (kk == 1) = false := by simpa using k1
          by_cases k2 : kk = 2
          · as_aux_lemma =>
            subst k2
            clear k0 k1
            have cI := d.delete (by omega) (by decide) pp
            clear d
            go_wp2_with fail
            refine cI.mono ?_
            rintro e w4 ⟨Y, rfl, q⟩
            rcases q with ⟨_, nz, _⟩ | ⟨_, V4, d4, _⟩
            · exact absurd trivial nz
            have t1 := (d4.bel.cell (p := ⟨b, _, none⟩) hlb).trans S1.out
            have cR := d4.rdelete pp hpp
            rw [hq3] at cR
            clear cI d4
            go_wp2_with fail
            refine cR.mono ?_
            rintro e w5 ⟨rfl, r9, hq9, d9, _⟩
            have D9 := (show Hid _ from d9)
            have HQ9 : Hid (r9.q = rq) := hq9
            clear cR d9 hq9 s0 s1 s2 t1
            go_wp2_with fail
            go_roundw
            case rel => exact ⟨i + 1, _, _, by omega, by go_num, HQ9, by rw [HST.out, stepH2]; exact D9.out.mono (by omega)⟩
            case measure => simp [intOf]; omega
          have e2k : (kk == 2) = false := by simpa using k2
          · as_aux_lemma =>
            have D9 := (show Hid _ from d)
            have HQ9 : Hid (r.q = rq) := hq3
            have HN := (show Hid _ from stepHn 6 Hi ⟨kk, pp, row⟩ k0 k1 k2)
            clear d hq3 s1 s2 k0 k1 k2
            go_wp2_with fail
            go_roundw
            case rel => exact ⟨i + 1, _, _, by omega, by go_num, HQ9, by rw [HST.out, HN.out]; exact D9.out.mono (by omega)⟩
            case measure => simp [intOf]; omega
        · have hlt2 : decide ((i : Int) < (L.length : Int)) = false := by simp; omega
          have hiL : i = L.length := by omega
          have ht : L.take i = L := by rw [hiL, List.take_length]
          rw [ht] at d
          generalize hHL : runH 6 L = HL at d
          have HHL := (show Hid _ from hHL)
          have hbd : 50 * i ≤ 5000 := by omega
          generalize 50 * i = bd at *
          have cD := fun w1 => mod_any rf 3 w1 hrf.1 hrf.2 (by decide) (by decide)
          have cD1 := cD wr
          clear cD ht hiL hHL hbel
          have D := (show Hid _ from d)
          clear d
          go_wp2_with fail
          refine cD1.mono ?_
          rintro e w3 ⟨m3, rfl, hm3, hw3⟩
          rw [hw3]
          clear hw3 cD1
          have cRf := D.out.refuse (1 + (m3 : Int)) (by omega) False (fun q => q.elim)
          clear D
          go_wp2_with fail
          refine cRf.mono ?_
          rintro e w4 ⟨rfl, d4, _⟩
          have cN := rnew_heap 6 (by decide) w4
          have D4 := (show Hid _ from d4)
          clear cRf d4
          go_wp2_with fail
          refine cN.mono ?_
          rintro e w5 ⟨c, rfl, rh, b5⟩
          have d5 := D4.out.two rh b5
          have hq := HQ.out
          generalize hcq : c.q = cq at *
          clear cN rh b5 D4
          have D5 := (show Hid _ from d5)
          clear d5
          go_wp2_with fail
          go_loopw [16] (fun sj wr => ∃ (j : Nat) (c : RH), j ≤ L.length ∧ sj = .int .i64 (j : Int) ∧ Hid (c.q = cq) ∧ D2 W wr hb p g bd 6 2 V HL False c (runH 6 (L.take j)) r HL) (fun sj _ => L.length - (intOf sj).toNat)
          case atStart => exact ⟨0, c, Nat.zero_le _, rfl, hcq, D5.out⟩
          case round =>
            clear D5 hcq
            obtain ⟨j, c, hj, rfl, HC, d⟩ := hrel
            have hbel := d.a.bel
            by_cases hlt : j < L.length
            · as_aux_lemma =>
              have hlt2 : (j : Int) < (L.length : Int) := by omega
              have hx : L[j]? = some L[j] := by simp [hlt]
              generalize L[j] = s at hx
              have hsz := HR.out s (List.mem_of_getElem? hx)
              have hok := HA.out s (List.mem_of_getElem? hx)
              have hpp : i64B s.place := hok.pB
              have hstep := runH_succ 6 L j s hx
              rcases hL2 with hL2 | ⟨b, off, rfl, hlb, hcell⟩
              · rw [hL2] at hlt; simp at hlt
              have S1 : Hid (W.cell? ⟨b, off + j * 3 + 1, none⟩ = some (.int .i64 s.place)) := hcell j s hx 1 _ rfl
              have S2 : Hid (W.cell? ⟨b, off + j * 3 + 2, none⟩ = some (.string s.row)) := hcell j s hx 2 _ rfl
              have s0 : wr.cell? ⟨b, off + j * 3, none⟩ = some (.int .i64 s.kind) := (hbel.cell (p := ⟨b, _, none⟩) hlb).trans (hcell j s hx 0 _ rfl)
              have s1 := (hbel.cell (p := ⟨b, _, none⟩) hlb).trans S1.out
              have s2 := (hbel.cell (p := ⟨b, _, none⟩) hlb).trans S2.out
              have hq3 := HC.out
              obtain ⟨kk, pp, row⟩ := s
              simp only at s0 s1 s2 hsz hpp S1 S2
              clear hcell hx hbel hok
              generalize hHi : runH 6 (L.take j) = Hi at *
              have HST := (show Hid _ from hstep)
              clear hstep hHi
              by_cases k0 : kk = 0
              · as_aux_lemma =>
                subst k0
                have cR := d.a.rinsert row (by omega)
                rw [hq3] at cR
                have D := (show Hid _ from d)
                clear d
                go_wp2_with fail
                refine cR.mono ?_
                rintro e w6 ⟨rfl, r9, hq9, d9, sm⟩
                have D9 := (show Hid _ from D.out.step d9 sm)
                have HQ9 : Hid (r9.q = cq) := hq9
                clear cR d9 sm hq9 s0 s1 s2 D
                go_wp2_with fail
                go_roundw
                case rel => exact ⟨j + 1, _, by omega, by go_num, HQ9, by rw [HST.out, stepH0]; exact D9.out⟩
                case measure => simp [intOf]; omega
              have e0k : (kk == 0) = false := by simpa using k0
              by_cases k1 : kk = 1
              · as_aux_lemma =>
                subst k1
                clear k0
                have cR := d.a.drew.rput pp hpp row (by omega)
                rw [hq3] at cR
                have D := (show Hid _ from d.below (below_drew wr))
                clear d
                go_wp2_with fail
                apply wp_end (R := fun U => ∃ r9 : RH, r9.q = cq ∧ D2 W U hb p g bd 6 2 V HL False r9 (putHH 6 Hi pp row) r HL)
                case h =>
                  go_region_held3 (fun U => U.cell? ⟨b, off + j * 3 + 1, none⟩ = some (.int .i64 pp) ∧ U.cell? ⟨b, off + j * 3 + 2, none⟩ = some (.string row)) (first | exact hB | exact ⟨s1, s2⟩ | go_keep)
                    (first
                      | (go_at_call 14; refine cR.mono ?_; rintro e w5 ⟨rfl, r9, hq9, d9, sm⟩; have hB := (⟨(d9.bel.cell (p := ⟨b, _, none⟩) hlb).trans S1.out, (d9.bel.cell (p := ⟨b, _, none⟩) hlb).trans S2.out⟩ : _ ∧ _)))
                  all_goals exact EndQ.mk ⟨r9, hq9, D.out.step d9 sm⟩
                rintro w6 ⟨r9, hq9, d9⟩
                have D9 := (show Hid _ from d9)
                have HQ9 : Hid (r9.q = cq) := hq9
                clear cR d9 hq9 s0 s1 s2 D
                go_wp2_with fail
                go_roundw
                case rel => exact ⟨j + 1, _, by omega, by go_num, HQ9, by rw [HST.out, stepH1]; exact D9.out⟩
                case measure => simp [intOf]; omega
              have e1k : (kk == 1) = false := by simpa using k1
              by_cases k2 : kk = 2
              · as_aux_lemma =>
                subst k2
                clear k0 k1
                have cR := d.a.rdelete pp hpp
                rw [hq3] at cR
                have D := (show Hid _ from d)
                clear d
                go_wp2_with fail
                refine cR.mono ?_
                rintro e w6 ⟨rfl, r9, hq9, d9, sm⟩
                have D9 := (show Hid _ from D.out.step d9 sm)
                have HQ9 : Hid (r9.q = cq) := hq9
                clear cR d9 sm hq9 s0 s1 s2 D
                go_wp2_with fail
                go_roundw
                case rel => exact ⟨j + 1, _, by omega, by go_num, HQ9, by rw [HST.out, stepH2]; exact D9.out⟩
                case measure => simp [intOf]; omega
              have e2k : (kk == 2) = false := by simpa using k2
              · as_aux_lemma =>
                have D9 := (show Hid _ from d)
                have HQ9 : Hid (c.q = cq) := hq3
                have HN := (show Hid _ from stepHn 6 Hi ⟨kk, pp, row⟩ k0 k1 k2)
                clear d hq3 s1 s2 k0 k1 k2
                go_wp2_with fail
                go_roundw
                case rel => exact ⟨j + 1, _, by omega, by go_num, HQ9, by rw [HST.out, HN.out]; exact D9.out⟩
                case measure => simp [intOf]; omega
            · as_aux_lemma =>
              have hlt2 : decide ((j : Int) < (L.length : Int)) = false := by simp; omega
              have ht : L.take j = L := by rw [show j = L.length by omega, List.take_length]
              rw [ht, HHL.out] at d
              have hcq := HC.out
              obtain ⟨x0, x1, x2⟩ := XC.out wr hbel
              clear ht hbel hL2
              by_cases k0 : kx = 0
              · as_aux_lemma =>
                subst k0
                skip
                have cI := d.a.insert (by omega) (by decide) rx hrx3
                have D := (show Hid _ from d)
                clear d
                go_wp2_with fail
                refine cI.mono ?_
                rintro e w6 ⟨K, Y, rfl, q⟩
                have hcase : (Y = 42 ∧ ∃ V6, D2 W w6 hb p g (bd + 46) 6 2 V6 HL False c HL r HL) ∨ (Y = insHX 6 HL rx ∧ ∃ V6, D2 W w6 hb p g (bd + 46) 6 2 V6 (insHH 6 HL rx) False c HL r HL) := by
                  rcases q with ⟨_, a, _, d6, sm⟩ | ⟨_, a, V6, d6, sm⟩
                  · exact Or.inl ⟨a, V, (D.out.step d6 sm).mono (by omega)⟩
                  · exact Or.inr ⟨a, V6, (D.out.step d6 sm).mono (by omega)⟩
                have hne := insHX_ne 6 HL rx
                clear cI q D x0 x1 x2
                generalize hEX : insHX 6 HL rx = EX at *
                have HEX := (show Hid _ from hEX)
                clear hEX
                rcases hcase with ⟨rfl, V6, d6⟩ | ⟨rfl, V6, d6⟩
                · as_aux_lemma =>
                  obtain ⟨x0, x1, x2⟩ := XC.out w6 d6.a.bel
                  have d7 := d6.swap
                  have cR := d7.a.rinsert rx hrx3
                  rw [hq, HEX.out] at cR
                  have D7 := (show Hid _ from d7)
                  clear d6 d7
                  go_wp2_with fail
                  refine cR.mono ?_
                  rintro e w7 ⟨rfl, r7, hq7, d8, sm⟩
                  have d9 := (D7.out.step d8 sm).swap
                  have HQW : Hid (c.q = cq) := hcq
                  clear cR d8 sm D7 x0 x1 x2 hq7 hq
                  -- the tail: e, f, and what is to be told
                  have cRf := d9.a.refuse 0 (by decide) True (fun _ => Int.le_refl _)
                  have hbZ := d9.a.bel
                  have D9 := (show Hid _ from d9)
                  clear d9
                  go_wp2_with fail
                  refine cRf.mono ?_
                  rintro e wA ⟨rfl, dA, smA⟩
                  have dA2 := D9.out.step dA smA
                  have cH := dA2.a.held
                  have DA := (show Hid _ from dA2)
                  clear cRf dA smA dA2 D9 hbZ
                  go_wp2_with fail
                  refine cH.mono ?_
                  rintro e wB ⟨v, hl, rfl, rB, hl2, bB⟩
                  obtain ⟨va, vc, rfl, _, _⟩ := rB.len
                  have hl3 : decide ((hl.length : Int) ≤ 2) = true := by simp; omega
                  have dB := DA.out.below bB
                  obtain ⟨x0, x1, x2⟩ := XC.out wB dB.a.bel
                  have cS := same_any dB.a trivial (by decide) (by decide) (by omega) px hpx
                  rw [HQW.out] at cS
                  clear cH rB bB DA dB hl2
                  go_wp2_with fail
                  refine cS.mono ?_
                  rintro e wC ⟨rfl, dC, _⟩
                  have cWC := cW wC
                  have HB : Hid (Below W.heap.size W wC) := dC.bel
                  clear cS dC
                  go_wp2_with fail
                  refine cWC.mono ?_
                  rintro e wD ⟨rfl, bD⟩
                  clear cWC
                  go_wp2_with fail
                  go_ret
                  exact ⟨rfl, HFin.out _ (below2 HB.out bD)⟩
                · as_aux_lemma =>
                  obtain ⟨x0, x1, x2⟩ := XC.out w6 d6.a.bel
                  have d7 := d6.swap
                  have cR := d7.a.rinsert rx hrx3
                  rw [hq, HEX.out] at cR
                  have D7 := (show Hid _ from d7)
                  have hne2 : (Y == 42) = false := by simpa using hne
                  clear d6 d7 hne
                  go_wp2_with fail
                  refine cR.mono ?_
                  rintro e w7 ⟨rfl, r7, hq7, d8, sm⟩
                  have d9 := D7.out.step d8 sm
                  have HQW : Hid (r7.q = rq) := hq7
                  clear cR d8 sm D7 x0 x1 x2 hq7 hq
                  -- the tail: e, f, and what is to be told
                  have cRf := d9.a.refuse 0 (by decide) True (fun _ => Int.le_refl _)
                  have hbZ := d9.a.bel
                  have D9 := (show Hid _ from d9)
                  clear d9
                  go_wp2_with fail
                  refine cRf.mono ?_
                  rintro e wA ⟨rfl, dA, smA⟩
                  have dA2 := D9.out.step dA smA
                  have cH := dA2.a.held
                  have DA := (show Hid _ from dA2)
                  clear cRf dA smA dA2 D9 hbZ
                  go_wp2_with fail
                  refine cH.mono ?_
                  rintro e wB ⟨v, hl, rfl, rB, hl2, bB⟩
                  obtain ⟨va, vc, rfl, _, _⟩ := rB.len
                  have hl3 : decide ((hl.length : Int) ≤ 2) = true := by simp; omega
                  have dB := DA.out.below bB
                  obtain ⟨x0, x1, x2⟩ := XC.out wB dB.a.bel
                  have cS := same_any dB.a trivial (by decide) (by decide) (by omega) px hpx
                  rw [HQW.out] at cS
                  clear cH rB bB DA dB hl2
                  go_wp2_with fail
                  refine cS.mono ?_
                  rintro e wC ⟨rfl, dC, _⟩
                  have cWC := cW wC
                  have HB : Hid (Below W.heap.size W wC) := dC.bel
                  clear cS dC
                  go_wp2_with fail
                  refine cWC.mono ?_
                  rintro e wD ⟨rfl, bD⟩
                  clear cWC
                  go_wp2_with fail
                  go_ret
                  exact ⟨rfl, HFin.out _ (below2 HB.out bD)⟩
              have e0k : (kx == 0) = false := by simpa using k0
              by_cases k1 : kx = 1
              · as_aux_lemma =>
                subst k1
                clear k0
                have cI := d.a.put (by omega) (by decide) px rx hrx3
                have D := (show Hid _ from d)
                clear d
                go_wp2_with fail
                refine cI.mono ?_
                rintro e w6 ⟨Y, rfl, q⟩
                have hcase : (Y = 42 ∧ ∃ V6, D2 W w6 hb p g (bd + 46) 6 2 V6 HL False c HL r HL) ∨ (Y = putHX 6 HL px rx ∧ ∃ V6, D2 W w6 hb p g (bd + 46) 6 2 V6 (putHH 6 HL px rx) False c HL r HL) := by
                  rcases q with ⟨a, _, d6, sm⟩ | ⟨a, V6, d6, sm⟩
                  · exact Or.inl ⟨a, V, (D.out.step d6 sm).mono (by omega)⟩
                  · exact Or.inr ⟨a, V6, (D.out.step d6 sm).mono (by omega)⟩
                have hne := putHX_ne 6 HL px rx
                clear cI q D x0 x1 x2
                generalize hEX : putHX 6 HL px rx = EX at *
                have HEX := (show Hid _ from hEX)
                clear hEX
                rcases hcase with ⟨rfl, V6, d6⟩ | ⟨rfl, V6, d6⟩
                · as_aux_lemma =>
                  obtain ⟨x0, x1, x2⟩ := XC.out w6 d6.a.bel
                  have d7 := d6.swap
                  have cR := d7.a.rput px hpx rx hrx3
                  rw [hq, HEX.out] at cR
                  have D7 := (show Hid _ from d7)
                  clear d6 d7
                  go_wp2_with fail
                  refine cR.mono ?_
                  rintro e w7 ⟨rfl, r7, hq7, d8, sm⟩
                  have d9 := (D7.out.step d8 sm).swap
                  have HQW : Hid (c.q = cq) := hcq
                  clear cR d8 sm D7 x0 x1 x2 hq7 hq
                  -- the tail: e, f, and what is to be told
                  have cRf := d9.a.refuse 0 (by decide) True (fun _ => Int.le_refl _)
                  have hbZ := d9.a.bel
                  have D9 := (show Hid _ from d9)
                  clear d9
                  go_wp2_with fail
                  refine cRf.mono ?_
                  rintro e wA ⟨rfl, dA, smA⟩
                  have dA2 := D9.out.step dA smA
                  have cH := dA2.a.held
                  have DA := (show Hid _ from dA2)
                  clear cRf dA smA dA2 D9 hbZ
                  go_wp2_with fail
                  refine cH.mono ?_
                  rintro e wB ⟨v, hl, rfl, rB, hl2, bB⟩
                  obtain ⟨va, vc, rfl, _, _⟩ := rB.len
                  have hl3 : decide ((hl.length : Int) ≤ 2) = true := by simp; omega
                  have dB := DA.out.below bB
                  obtain ⟨x0, x1, x2⟩ := XC.out wB dB.a.bel
                  have cS := same_any dB.a trivial (by decide) (by decide) (by omega) px hpx
                  rw [HQW.out] at cS
                  clear cH rB bB DA dB hl2
                  go_wp2_with fail
                  refine cS.mono ?_
                  rintro e wC ⟨rfl, dC, _⟩
                  have cWC := cW wC
                  have HB : Hid (Below W.heap.size W wC) := dC.bel
                  clear cS dC
                  go_wp2_with fail
                  refine cWC.mono ?_
                  rintro e wD ⟨rfl, bD⟩
                  clear cWC
                  go_wp2_with fail
                  go_ret
                  exact ⟨rfl, HFin.out _ (below2 HB.out bD)⟩
                · as_aux_lemma =>
                  obtain ⟨x0, x1, x2⟩ := XC.out w6 d6.a.bel
                  have d7 := d6.swap
                  have cR := d7.a.rput px hpx rx hrx3
                  rw [hq, HEX.out] at cR
                  have D7 := (show Hid _ from d7)
                  have hne2 : (Y == 42) = false := by simpa using hne
                  clear d6 d7 hne
                  go_wp2_with fail
                  refine cR.mono ?_
                  rintro e w7 ⟨rfl, r7, hq7, d8, sm⟩
                  have d9 := D7.out.step d8 sm
                  have HQW : Hid (r7.q = rq) := hq7
                  clear cR d8 sm D7 x0 x1 x2 hq7 hq
                  -- the tail: e, f, and what is to be told
                  have cRf := d9.a.refuse 0 (by decide) True (fun _ => Int.le_refl _)
                  have hbZ := d9.a.bel
                  have D9 := (show Hid _ from d9)
                  clear d9
                  go_wp2_with fail
                  refine cRf.mono ?_
                  rintro e wA ⟨rfl, dA, smA⟩
                  have dA2 := D9.out.step dA smA
                  have cH := dA2.a.held
                  have DA := (show Hid _ from dA2)
                  clear cRf dA smA dA2 D9 hbZ
                  go_wp2_with fail
                  refine cH.mono ?_
                  rintro e wB ⟨v, hl, rfl, rB, hl2, bB⟩
                  obtain ⟨va, vc, rfl, _, _⟩ := rB.len
                  have hl3 : decide ((hl.length : Int) ≤ 2) = true := by simp; omega
                  have dB := DA.out.below bB
                  obtain ⟨x0, x1, x2⟩ := XC.out wB dB.a.bel
                  have cS := same_any dB.a trivial (by decide) (by decide) (by omega) px hpx
                  rw [HQW.out] at cS
                  clear cH rB bB DA dB hl2
                  go_wp2_with fail
                  refine cS.mono ?_
                  rintro e wC ⟨rfl, dC, _⟩
                  have cWC := cW wC
                  have HB : Hid (Below W.heap.size W wC) := dC.bel
                  clear cS dC
                  go_wp2_with fail
                  refine cWC.mono ?_
                  rintro e wD ⟨rfl, bD⟩
                  clear cWC
                  go_wp2_with fail
                  go_ret
                  exact ⟨rfl, HFin.out _ (below2 HB.out bD)⟩
              have e1k : (kx == 1) = false := by simpa using k1
              by_cases k2 : kx = 2
              · as_aux_lemma =>
                subst k2
                clear k0 k1
                have cI := d.a.delete (by omega) (by decide) px
                have D := (show Hid _ from d)
                clear d
                go_wp2_with fail
                refine cI.mono ?_
                rintro e w6 ⟨Y, rfl, q⟩
                have hcase : (Y = 42 ∧ ∃ V6, D2 W w6 hb p g (bd + 46) 6 2 V6 HL False c HL r HL) ∨ (Y = delHX 6 HL px ∧ ∃ V6, D2 W w6 hb p g (bd + 46) 6 2 V6 (delHH 6 HL px) False c HL r HL) := by
                  rcases q with ⟨a, _, d6, sm⟩ | ⟨a, V6, d6, sm⟩
                  · exact Or.inl ⟨a, V, (D.out.step d6 sm).mono (by omega)⟩
                  · exact Or.inr ⟨a, V6, (D.out.step d6 sm).mono (by omega)⟩
                have hne := delHX_ne 6 HL px
                clear cI q D x0 x1 x2
                generalize hEX : delHX 6 HL px = EX at *
                have HEX := (show Hid _ from hEX)
                clear hEX
                rcases hcase with ⟨rfl, V6, d6⟩ | ⟨rfl, V6, d6⟩
                · as_aux_lemma =>
                  obtain ⟨x0, x1, x2⟩ := XC.out w6 d6.a.bel
                  have d7 := d6.swap
                  have cR := d7.a.rdelete px hpx
                  rw [hq, HEX.out] at cR
                  have D7 := (show Hid _ from d7)
                  clear d6 d7
                  go_wp2_with fail
                  refine cR.mono ?_
                  rintro e w7 ⟨rfl, r7, hq7, d8, sm⟩
                  have d9 := (D7.out.step d8 sm).swap
                  have HQW : Hid (c.q = cq) := hcq
                  clear cR d8 sm D7 x0 x1 x2 hq7 hq
                  -- the tail: e, f, and what is to be told
                  have cRf := d9.a.refuse 0 (by decide) True (fun _ => Int.le_refl _)
                  have hbZ := d9.a.bel
                  have D9 := (show Hid _ from d9)
                  clear d9
                  go_wp2_with fail
                  refine cRf.mono ?_
                  rintro e wA ⟨rfl, dA, smA⟩
                  have dA2 := D9.out.step dA smA
                  have cH := dA2.a.held
                  have DA := (show Hid _ from dA2)
                  clear cRf dA smA dA2 D9 hbZ
                  go_wp2_with fail
                  refine cH.mono ?_
                  rintro e wB ⟨v, hl, rfl, rB, hl2, bB⟩
                  obtain ⟨va, vc, rfl, _, _⟩ := rB.len
                  have hl3 : decide ((hl.length : Int) ≤ 2) = true := by simp; omega
                  have dB := DA.out.below bB
                  obtain ⟨x0, x1, x2⟩ := XC.out wB dB.a.bel
                  have cS := same_any dB.a trivial (by decide) (by decide) (by omega) px hpx
                  rw [HQW.out] at cS
                  clear cH rB bB DA dB hl2
                  go_wp2_with fail
                  refine cS.mono ?_
                  rintro e wC ⟨rfl, dC, _⟩
                  have cWC := cW wC
                  have HB : Hid (Below W.heap.size W wC) := dC.bel
                  clear cS dC
                  go_wp2_with fail
                  refine cWC.mono ?_
                  rintro e wD ⟨rfl, bD⟩
                  clear cWC
                  go_wp2_with fail
                  go_ret
                  exact ⟨rfl, HFin.out _ (below2 HB.out bD)⟩
                · as_aux_lemma =>
                  obtain ⟨x0, x1, x2⟩ := XC.out w6 d6.a.bel
                  have d7 := d6.swap
                  have cR := d7.a.rdelete px hpx
                  rw [hq, HEX.out] at cR
                  have D7 := (show Hid _ from d7)
                  have hne2 : (Y == 42) = false := by simpa using hne
                  clear d6 d7 hne
                  go_wp2_with fail
                  refine cR.mono ?_
                  rintro e w7 ⟨rfl, r7, hq7, d8, sm⟩
                  have d9 := D7.out.step d8 sm
                  have HQW : Hid (r7.q = rq) := hq7
                  clear cR d8 sm D7 x0 x1 x2 hq7 hq
                  -- the tail: e, f, and what is to be told
                  have cRf := d9.a.refuse 0 (by decide) True (fun _ => Int.le_refl _)
                  have hbZ := d9.a.bel
                  have D9 := (show Hid _ from d9)
                  clear d9
                  go_wp2_with fail
                  refine cRf.mono ?_
                  rintro e wA ⟨rfl, dA, smA⟩
                  have dA2 := D9.out.step dA smA
                  have cH := dA2.a.held
                  have DA := (show Hid _ from dA2)
                  clear cRf dA smA dA2 D9 hbZ
                  go_wp2_with fail
                  refine cH.mono ?_
                  rintro e wB ⟨v, hl, rfl, rB, hl2, bB⟩
                  obtain ⟨va, vc, rfl, _, _⟩ := rB.len
                  have hl3 : decide ((hl.length : Int) ≤ 2) = true := by simp; omega
                  have dB := DA.out.below bB
                  obtain ⟨x0, x1, x2⟩ := XC.out wB dB.a.bel
                  have cS := same_any dB.a trivial (by decide) (by decide) (by omega) px hpx
                  rw [HQW.out] at cS
                  clear cH rB bB DA dB hl2
                  go_wp2_with fail
                  refine cS.mono ?_
                  rintro e wC ⟨rfl, dC, _⟩
                  have cWC := cW wC
                  have HB : Hid (Below W.heap.size W wC) := dC.bel
                  clear cS dC
                  go_wp2_with fail
                  refine cWC.mono ?_
                  rintro e wD ⟨rfl, bD⟩
                  clear cWC
                  go_wp2_with fail
                  go_ret
                  exact ⟨rfl, HFin.out _ (below2 HB.out bD)⟩
              have e2k : (kx == 2) = false := by simpa using k2
              · as_aux_lemma =>
                have d9 := d.swap
                have HQW : Hid (r.q = rq) := hq
                clear d x1 x2 k0 k1 k2 hq
                -- the tail: e, f, and what is to be told
                have cRf := d9.a.refuse 0 (by decide) True (fun _ => Int.le_refl _)
                have hbZ := d9.a.bel
                have D9 := (show Hid _ from d9)
                clear d9
                go_wp2_with fail
                refine cRf.mono ?_
                rintro e wA ⟨rfl, dA, smA⟩
                have dA2 := D9.out.step dA smA
                have cH := dA2.a.held
                have DA := (show Hid _ from dA2)
                clear cRf dA smA dA2 D9 hbZ
                go_wp2_with fail
                refine cH.mono ?_
                rintro e wB ⟨v, hl, rfl, rB, hl2, bB⟩
                obtain ⟨va, vc, rfl, _, _⟩ := rB.len
                have hl3 : decide ((hl.length : Int) ≤ 2) = true := by simp; omega
                have dB := DA.out.below bB
                obtain ⟨x0, x1, x2⟩ := XC.out wB dB.a.bel
                have cS := same_any dB.a trivial (by decide) (by decide) (by omega) px hpx
                rw [HQW.out] at cS
                clear cH rB bB DA dB hl2
                go_wp2_with fail
                refine cS.mono ?_
                rintro e wC ⟨rfl, dC, _⟩
                have cWC := cW wC
                have HB : Hid (Below W.heap.size W wC) := dC.bel
                clear cS dC
                go_wp2_with fail
                refine cWC.mono ?_
                rintro e wD ⟨rfl, bD⟩
                clear cWC
                go_wp2_with fail
                go_ret
                exact ⟨rfl, HFin.out _ (below2 HB.out bD)⟩

section
variable {H : Type} {enc : TypeId × Value → H} {W : World} {base : Nat}
set_option maxRecDepth 100000 in
theorem open_step1 {v : Value} {d : DataW H} {ps : List MemPlace} (hv : Value.okWide Tryz.prog W .any base 34 v) (h : DataW.Trod enc Tryz.prog W 0 (fun _ => true) true 34 v d ps) :
    ∃ s : Hp1, v = .agg #[.int .i64 s.kind, .int .i64 s.place, .string s.row] ∧ s.ok := by
  obtain ⟨cs, rfl, hsz⟩ := okWide_struct Tryz.underlying34 hv
  obtain ⟨fuel, hf⟩ := h
  obtain ⟨s, e, hs⟩ := trod_step hf
  simp only [Value.cells] at e
  refine ⟨s, ?_, hs⟩
  obtain ⟨l⟩ := cs
  simp only [Hp1.cells] at e
  have : l = [.int .i64 s.kind, .int .i64 s.place, .string s.row] := e
  rw [this]
end

set_option maxRecDepth 100000 in
theorem heapDown_any {H : Type} {enc : TypeId × Value → H} {base : Nat} {d0 d1 : DataW H} {p0 p1 : List MemPlace} (v0 v1 : Value) (rf : Int) (w : World) (hv0 : Value.okWide Tryz.prog w .any base 22 v0) (h0 : DataW.Trod enc Tryz.prog w 0 (fun _ => true) true 22 v0 d0 p0) (hv1 : Value.okWide Tryz.prog w .any base 34 v1) (h1 : DataW.Trod enc Tryz.prog w 0 (fun _ => true) true 34 v1 d1 p1) (hrf : -9223372036854775808 ≤ rf ∧ rf ≤ 9223372036854775807) :
    Calls Tryz.prog 4 #[v0, v1, .int .i64 rf] w fun e w' => e = .returned (.bool true) ∧ Below w.heap.size w w' := by
  obtain ⟨a0, L, c0, rfl, r1, r2, r3, r4⟩ := open_steps hv0 h0
  obtain ⟨x, rfl, hx⟩ := open_step1 hv1 h1
  exact heapDown_on a0 L c0 x rf w hx hrf r1 r4 (by omega)

end Go.Proofs.YtjmdenlocmleiaaGreat

/- HeapPlays: the walk. -/
import Derived.Test.YtjmdenlocmleiaaGreatDAll
namespace Go.Proofs.YtjmdenlocmleiaaGreat
open Go.RowKit

theorem Du.same9 {W w : World} {hb p g bd n m : Nat} {V : Nat → ByteArray} {H : Hp} {z : Prop} {r : RH} {G : Nat → Prop} (d : Du W w hb p g bd n m V H z r H G) (hz : z) (hm : 1 ≤ m) (hn : n ≤ 500) (hbd : bd ≤ 40000) (k : Int) (hk : i64B k) :
    Calls Tryz.prog 20 #[.pointer (some ⟨hb, 0, none⟩), .pointer (some ⟨r.q, 0, none⟩), .int .i64 k] w fun e w' => e = .returned (.bool true) ∧ Du W w' hb p g (bd + 6 * n + 20) n m V H z r H (fun _ => False) :=
  (same_any d hz hm hn hbd k hk).mono (by rintro e w' ⟨rfl, d', _⟩; exact ⟨rfl, d'.less (fun _ q => q.elim)⟩)

set_option maxHeartbeats 12800000 in
set_option maxRecDepth 100000 in
theorem heapPlays_on (sec fr : Int) (a0 : Option Addr) (L : List Hp1) (c0 : Nat) (w : World) (hsec : i64B sec) (hfr : i64B fr) (hL : SlG w a0 3 Hp1.cells L) (hall : ∀ s ∈ L, s.ok) (hlen : L.length ≤ maxLen) :
    Calls Tryz.prog 3 #[.int .i64 sec, .int .i64 fr, .slice a0 L.length c0] w fun e w' => e = .returned (.bool true) ∧ Below w.heap.size w w' := by
  have cW := hwakes_any
  have cF := fun w1 (b : Below w.heap.size w w1) => fair_any a0 L c0 w1 (hL.kept b) hlen
  have cM1 := mod_any sec 12 w hsec.1 hsec.2 (by decide) (by decide)
  have cM2 := mod_any fr 5 w hfr.1 hfr.2 (by decide) (by decide)
  go_enter Tryz.func3, Tryz.ntmps3
  go_wp2_with fail
  refine cM1.mono ?_
  rintro e w1 ⟨n0, rfl, hn0, hw1⟩
  rw [hw1]
  clear hw1 cM1
  go_wp2_with fail
  refine cM2.mono ?_
  rintro e w1 ⟨m0, rfl, hm0, hw1⟩
  rw [hw1]
  clear hw1 cM2
  obtain ⟨n, hn⟩ : ∃ n, n = 1 + n0 := ⟨_, rfl⟩
  obtain ⟨m, hm⟩ : ∃ m, m = 2 + m0 := ⟨_, rfl⟩
  have en : (1 : Int) + (n0 : Int) = (n : Int) := by omega
  have em : (2 : Int) + (m0 : Int) = (m : Int) := by omega
  have cMa := made_any n m (by omega) (by omega) w
  have hn1 : 1 ≤ n ∧ n ≤ 12 := by omega
  have hm1 : 1 ≤ m := by omega
  have hm2 : 2 ≤ m := by omega
  have hn5 : n ≤ 500 := by omega
  have hn10 : n ≤ 1000 := by omega
  clear hn hm
  go_wp2_with fail
  refine cMa.mono ?_
  rintro e w1 ⟨g, p, hb, rfl, t1⟩
  have cR := rnew_heap n hn10 w1
  have T1 := (show Hid _ from t1)
  clear cMa t1 hn0 hm0
  go_wp2_with fail
  refine cR.mono ?_
  rintro e w2 ⟨r, rfl, rh, b2⟩
  have d2 := Du.make T1.out (vok_new n hn1.1 (by omega)) rh b2
  have cF2 := cF w2 d2.bel
  clear cR rh b2 cF T1
  go_wp2_with fail
  refine cF2.mono ?_
  rintro e w3 ⟨rfl, hw3⟩
  rw [hw3]
  clear hw3 cF2
  cases hfair : fairB L with
  | false =>
    have cW1 := cW w2
    have HB : Hid (Below w.heap.size w w2) := d2.bel
    clear d2 cW hfair
    go_wp2_with fail
    refine cW1.mono ?_
    rintro e w5 ⟨rfl, b5⟩
    clear cW1
    go_wp2_with fail
    go_ret
    exact ⟨rfl, below2 HB.out b5⟩
  | true =>
    obtain ⟨hl1, hl2⟩ := fair_of hfair
    have HR : Hid (∀ s ∈ L, s.row.size ≤ 2000) := hl2
    have HA : Hid (∀ s ∈ L, s.ok) := hall
    clear hfair hl2 hall
    generalize hrq : r.q = rq at *
    go_wp2_with fail
    go_loopw [10, 13] (fun sh si wr => ∃ (i hb : Nat) (V : Nat → ByteArray) (H : Hp) (r : RH), i ≤ L.length ∧ sh = .pointer (some ⟨hb, 0, none⟩) ∧ si = .int .i64 (i : Int) ∧ Hid (r.q = rq) ∧ Du w wr hb p g (300 * i) n m V H True r H (fun _ => False)) (fun _ si _ => L.length - (intOf si).toNat)
    case atStart => exact ⟨0, hb, _, _, r, Nat.zero_le _, rfl, rfl, hrq, d2⟩
    case round =>
      clear d2 hrq
      obtain ⟨i, hb, V, H, r, hi, rfl, rfl, HQ, d⟩ := hrel
      have hbel := d.bel
      by_cases hlt : i < L.length
      · as_aux_lemma =>
        have hlt2 : (i : Int) < (L.length : Int) := by omega
        have hx : L[i]? = some L[i] := by simp [hlt]
        generalize L[i] = s at hx
        have hsz := HR.out s (List.mem_of_getElem? hx)
        have hok := HA.out s (List.mem_of_getElem? hx)
        have hpp : i64B s.place := hok.pB
        rcases hL with hL | ⟨b, off, rfl, hlb, hcell⟩
        · rw [hL] at hlt; simp at hlt
        have s0 : wr.cell? ⟨b, off + i * 3, none⟩ = some (.int .i64 s.kind) := (hbel.cell (p := ⟨b, _, none⟩) hlb).trans (hcell i s hx 0 _ rfl)
        have s1 : wr.cell? ⟨b, off + i * 3 + 1, none⟩ = some (.int .i64 s.place) := (hbel.cell (p := ⟨b, _, none⟩) hlb).trans (hcell i s hx 1 _ rfl)
        have s2 : wr.cell? ⟨b, off + i * 3 + 2, none⟩ = some (.string s.row) := (hbel.cell (p := ⟨b, _, none⟩) hlb).trans (hcell i s hx 2 _ rfl)
        have d3 := d.alloc (stepObj s)
        have hS3 : (wr.alloc (stepObj s)).heap[wr.heap.size]? = some (stepObj s) := heap_alloc_new wr _
        obtain ⟨kk, pp, row⟩ := s
        simp only at s0 s1 s2 hsz hpp
        have hq3 := HQ.out
        clear hcell hx hbel d hok
        go_upto_region 10 with fail
        generalize hX : wr.heap.size = X at *
        generalize hW3 : wr.alloc (.cells #[.int .i64 kk, .int .i64 pp, .string row] 34) = w3
        have e3 : wr.alloc (stepObj ⟨kk, pp, row⟩) = w3 := hW3
        rw [e3] at d3 hS3
        obtain ⟨x0, x1, x2⟩ := stepCells hS3
        simp only at x0 x1 x2
        have HS3 := (show Hid _ from hS3)
        clear hW3 e3 hS3 s0 s1 s2 hX
        by_cases k0 : kk = 0
        · as_aux_lemma =>
          subst k0
          have cI := d3.insert (by omega) hm2 row (by omega)
          clear d3
          go_wp2_with fail
          refine cI.mono ?_
          rintro e w4 ⟨K, E, rfl, q⟩
          rcases q with ⟨_, _, nz, _⟩ | ⟨rfl, rfl, V4, d4, sm4⟩
          · exact absurd trivial nz
          have hS4 : w4.heap[X]? = some _ := (sm4 X rfl).trans HS3.out
          obtain ⟨y0, y1, y2⟩ := stepCells hS4
          simp only at y0 y1 y2
          have cR := d4.rinsert row (by omega)
          rw [hq3] at cR
          have HS4 := (show Hid _ from hS4)
          clear cI d4 sm4 hS4
          generalize insHK n H row = K at *
          generalize insHX n H row = E at *
          go_wp2_with fail
          refine cR.mono ?_
          rintro e w5 ⟨rfl, r9, hq9, d9, sm5⟩
          have hS9 : w5.heap[X]? = some _ := (sm5 X rfl).trans HS4.out
          have HQ9 : Hid (r9.q = rq) := hq9
          clear cR sm5 hq9 x0 x1 x2 y0 y1 y2
          have cSame := d9.same9 trivial hm1 hn5 (by omega) pp hpp
          rw [HQ9.out] at cSame
          clear d9
          have q9 := stepCells hS9
          obtain ⟨_, q91, _⟩ := q9
          go_wp2_with fail
          refine cSame.mono ?_
          rintro e w9 ⟨rfl, dS⟩
          have DS := (show Hid _ from dS)
          clear cSame dS
          go_wp2_with fail
          go_roundw
          case rel => exact ⟨i + 1, _, _, _, _, by omega, rfl, by go_num, HQ9, DS.out.mono (by omega)⟩
          case measure => simp [intOf]; omega
        have d0k : (kk == 0) = false := by simpa using k0
        by_cases k1 : kk = 1
        · as_aux_lemma =>
          subst k1
          clear k0
          have dD := d3.drew
          have cA := dD.put (by omega) hm2 pp row (by omega)
          have cB := dD.rput pp hpp row (by omega)
          rw [hq3] at cB
          have H3 := (show Hid _ from (fun (U : World) (sm : Same (fun k => k = X) w3.drew U) => (sm X rfl).trans HS3.out))
          generalize hEX : putHX n H pp row = EX at *
          have HEX := (show Hid _ from hEX)
          clear d3 dD hEX
          go_wp2_with fail
          apply wp_end (R := fun U => ∃ (V9 : Nat → ByteArray) (r9 : RH), r9.q = rq ∧ Du w U hb p g (300 * i + 9) n m V9 (putHH n H pp row) True r9 (putHH n H pp row) (fun k => k = X) ∧ U.heap[X]? = some (stepObj ⟨1, pp, row⟩))
          case h =>
            go_region_held3 (fun U => U.cell? ⟨X, 1, none⟩ = some (.int .i64 pp) ∧ U.cell? ⟨X, 2, none⟩ = some (.string row)) (first | exact hB | exact ⟨x1, x2⟩ | go_keep)
              (first
                | (have _ := dP; go_at_call 14; have c := dP.rput pp hpp row (by omega); rw [hq3] at c; refine c.mono ?_; rintro e w6 ⟨rfl, r9, hq9, d9, sm6⟩; have hS9 := (sm6 X rfl).trans hSP; have hB := (stepCells hS9).2; have eE := HEX.out)
                | (have _ := dR; go_at_call 13; have c := dR.put (by omega) hm2 pp row (by omega); rw [HEX.out] at c; refine c.mono ?_; rintro e w6 ⟨Y, rfl, q⟩; rcases q with ⟨_, nz, _⟩ | ⟨eY, V9, d9, sm6⟩; exact absurd trivial nz; rw [eY]; have hS9 := (sm6 X rfl).trans hSR; have hB := (stepCells hS9).2; have hq9 := hqR)
                | (go_at_call 13; refine cA.mono ?_; rintro e w5 ⟨Y, rfl, q⟩; rcases q with ⟨_, nz, _⟩ | ⟨eY, V9, dP, sm5⟩; exact absurd trivial nz; rw [eY]; have hSP := H3.out _ sm5; have hB := (stepCells hSP).2)
                | (go_at_call 14; refine cB.mono ?_; rintro e w5 ⟨rfl, r9, hqR, dR, sm5⟩; have hSR := H3.out _ sm5; have hB := (stepCells hSR).2))
            all_goals exact EndQ.mk ⟨V9, r9, hq9, d9, hS9⟩
          rintro w5 ⟨V9, r9, hq9, d9, hS9⟩
          have HQ9 : Hid (r9.q = rq) := hq9
          clear cA cB H3 x0 x1 x2 hq9
          have cSame := d9.same9 trivial hm1 hn5 (by omega) pp hpp
          rw [HQ9.out] at cSame
          clear d9
          have q9 := stepCells hS9
          obtain ⟨_, q91, _⟩ := q9
          go_wp2_with fail
          refine cSame.mono ?_
          rintro e w9 ⟨rfl, dS⟩
          have DS := (show Hid _ from dS)
          clear cSame dS
          go_wp2_with fail
          go_roundw
          case rel => exact ⟨i + 1, _, _, _, _, by omega, rfl, by go_num, HQ9, DS.out.mono (by omega)⟩
          case measure => simp [intOf]; omega
        have d1k : (kk == 1) = false := by simpa using k1
        by_cases k2 : kk = 2
        · as_aux_lemma =>
          subst k2
          clear k0 k1
          have dD := d3.drew
          have cA := dD.delete (by omega) hm2 pp
          have cB := dD.rdelete pp hpp
          rw [hq3] at cB
          have H3 := (show Hid _ from (fun (U : World) (sm : Same (fun k => k = X) w3.drew U) => (sm X rfl).trans HS3.out))
          generalize hEX : delHX n H pp = EX at *
          have HEX := (show Hid _ from hEX)
          clear d3 dD hEX
          go_wp2_with fail
          apply wp_end (R := fun U => ∃ (V9 : Nat → ByteArray) (r9 : RH), r9.q = rq ∧ Du w U hb p g (300 * i + 9) n m V9 (delHH n H pp) True r9 (delHH n H pp) (fun k => k = X) ∧ U.heap[X]? = some (stepObj ⟨2, pp, row⟩))
          case h =>
            go_region_held3 (fun U => U.cell? ⟨X, 1, none⟩ = some (.int .i64 pp) ∧ U.cell? ⟨X, 2, none⟩ = some (.string row)) (first | exact hB | exact ⟨x1, x2⟩ | go_keep)
              (first
                | (have _ := dP; go_at_call 16; have c := dP.rdelete pp hpp; rw [hq3] at c; refine c.mono ?_; rintro e w6 ⟨rfl, r9, hq9, d9, sm6⟩; have hS9 := (sm6 X rfl).trans hSP; have hB := (stepCells hS9).2; have eE := HEX.out)
                | (have _ := dR; go_at_call 15; have c := dR.delete (by omega) hm2 pp; rw [HEX.out] at c; refine c.mono ?_; rintro e w6 ⟨Y, rfl, q⟩; rcases q with ⟨_, nz, _⟩ | ⟨eY, V9, d9, sm6⟩; exact absurd trivial nz; rw [eY]; have hS9 := (sm6 X rfl).trans hSR; have hB := (stepCells hS9).2; have hq9 := hqR)
                | (go_at_call 15; refine cA.mono ?_; rintro e w5 ⟨Y, rfl, q⟩; rcases q with ⟨_, nz, _⟩ | ⟨eY, V9, dP, sm5⟩; exact absurd trivial nz; rw [eY]; have hSP := H3.out _ sm5; have hB := (stepCells hSP).2)
                | (go_at_call 16; refine cB.mono ?_; rintro e w5 ⟨rfl, r9, hqR, dR, sm5⟩; have hSR := H3.out _ sm5; have hB := (stepCells hSR).2))
            all_goals exact EndQ.mk ⟨V9, r9, hq9, d9, hS9⟩
          rintro w5 ⟨V9, r9, hq9, d9, hS9⟩
          have HQ9 : Hid (r9.q = rq) := hq9
          clear cA cB H3 x0 x1 x2 hq9
          have cSame := d9.same9 trivial hm1 hn5 (by omega) pp hpp
          rw [HQ9.out] at cSame
          clear d9
          have q9 := stepCells hS9
          obtain ⟨_, q91, _⟩ := q9
          go_wp2_with fail
          refine cSame.mono ?_
          rintro e w9 ⟨rfl, dS⟩
          have DS := (show Hid _ from dS)
          clear cSame dS
          go_wp2_with fail
          go_roundw
          case rel => exact ⟨i + 1, _, _, _, _, by omega, rfl, by go_num, HQ9, DS.out.mono (by omega)⟩
          case measure => simp [intOf]; omega
        have d2k : (kk == 2) = false := by simpa using k2
        by_cases k3 : kk = 3
        · as_aux_lemma =>
          subst k3
          clear k0 k1 k2
          have cE := d3.evict (by omega) pp hpp
          clear d3
          go_wp2_with fail
          refine cE.mono ?_
          rintro e w4 ⟨E, rfl, d9, sm4⟩
          have hS9 : w4.heap[X]? = some _ := (sm4 X rfl).trans HS3.out
          have HQ9 : Hid (r.q = rq) := hq3
          clear cE sm4 x0 x1 x2 hq3
          have cSame := d9.same9 trivial hm1 hn5 (by omega) pp hpp
          rw [HQ9.out] at cSame
          clear d9
          have q9 := stepCells hS9
          obtain ⟨_, q91, _⟩ := q9
          go_wp2_with fail
          refine cSame.mono ?_
          rintro e w9 ⟨rfl, dS⟩
          have DS := (show Hid _ from dS)
          clear cSame dS
          go_wp2_with fail
          go_roundw
          case rel => exact ⟨i + 1, _, _, _, _, by omega, rfl, by go_num, HQ9, DS.out.mono (by omega)⟩
          case measure => simp [intOf]; omega
        have d3k : (kk == 3) = false := by simpa using k3
        by_cases k4 : kk = 4
        · as_aux_lemma =>
          subst k4
          clear k0 k1 k2 k3
          have cE := d3.flush trivial (by omega)
          clear d3
          go_wp2_with fail
          refine cE.mono ?_
          rintro e w4 ⟨rfl, d4, sm4⟩
          have hS4 : w4.heap[X]? = some _ := (sm4 X rfl).trans HS3.out
          obtain ⟨d9, sm5⟩ := d4.renew
          have hS9 : (w4.alloc (hobj p)).heap[X]? = some _ := (sm5 X rfl).trans hS4
          have cN := new_heap p w4
          have HQ9 : Hid (r.q = rq) := hq3
          clear cE sm4 sm5 x0 x1 x2 hS4 d4 hq3
          go_wp2_with fail
          refine cN.mono ?_
          rintro e w5 ⟨rfl, hw5⟩
          rw [hw5]
          clear hw5 cN
          generalize hw5 : w4.alloc (hobj p) = w5 at *
          clear hw5
          have cSame := d9.same9 trivial hm1 hn5 (by omega) pp hpp
          rw [HQ9.out] at cSame
          clear d9
          have q9 := stepCells hS9
          obtain ⟨_, q91, _⟩ := q9
          go_wp2_with fail
          refine cSame.mono ?_
          rintro e w9 ⟨rfl, dS⟩
          have DS := (show Hid _ from dS)
          clear cSame dS
          go_wp2_with fail
          go_roundw
          case rel => exact ⟨i + 1, _, _, _, _, by omega, rfl, by go_num, HQ9, DS.out.mono (by omega)⟩
          case measure => simp [intOf]; omega
        have d4k : (kk == 4) = false := by simpa using k4
        as_aux_lemma =>
          have d9 := d3
          have hS9 := HS3.out
          have HQ9 : Hid (r.q = rq) := hq3
          clear d3 x1 x2 hq3 k0 k1 k2 k3 k4
          have cSame := d9.same9 trivial hm1 hn5 (by omega) pp hpp
          rw [HQ9.out] at cSame
          clear d9
          have q9 := stepCells hS9
          obtain ⟨_, q91, _⟩ := q9
          go_wp2_with fail
          refine cSame.mono ?_
          rintro e w9 ⟨rfl, dS⟩
          have DS := (show Hid _ from dS)
          clear cSame dS
          go_wp2_with fail
          go_roundw
          case rel => exact ⟨i + 1, _, _, _, _, by omega, rfl, by go_num, HQ9, DS.out.mono (by omega)⟩
          case measure => simp [intOf]; omega
      · have hlt2 : decide ((i : Int) < (L.length : Int)) = false := by simp; omega
        have HQ9 := (show Hid _ from HQ.out)
        have hPT : Hid (∀ x ∈ placesN n H, delHX n H x = 0 ∧ i64B x) := fun x hx => places_there d.ok hx
        have lP : (placesN n H).length ≤ 100000 := by
          rw [placesN_eq]
          have h1 := flat_len d.ok ((pgsN n).filter (fun i => !(H i).isEmpty))
          have h2 := List.length_filter_le (fun i => !(H i).isEmpty) (pgsN n)
          have e : (pgsN n).length = n - 1 := by unfold pgsN; rw [List.length_range']
          omega
        have lP2 : (placesN n H).length ≤ 2000 := by
          rw [placesN_eq]
          have h1 := flat_len d.ok ((pgsN n).filter (fun i => !(H i).isEmpty))
          have h2 := List.length_filter_le (fun i => !(H i).isEmpty) (pgsN n)
          have e : (pgsN n).length = n - 1 := by unfold pgsN; rw [List.length_range']
          omega
        have cPl := fun (b : Nat) (U : World) (d : Du w U hb p g b n m V H True r H (fun _ => False)) => d.rplaces hn5
        rw [HQ.out] at cPl
        have cG := fun (b : Nat) (U : World) (d : Du w U hb p g b n m V H True r H (fun _ => False)) (hb' : b ≤ 60000) (k : Int) => d.get trivial hb' hm1 k
        have cRG := fun (b : Nat) (U : World) (d : Du w U hb p g b n m V H True r H (fun _ => False)) (k : Int) (hk : i64B k) => d.rget k hk
        rw [HQ.out] at cRG
        have D := (show Hid _ from d)
        clear d hL hbel
        generalize hPP : placesN n H = PP at *
        go_wp2_with fail
        go_loopw [21] (fun si wr => ∃ k : Nat, k ≤ PP.length ∧ si = .int .i64 (k : Int) ∧ Du w wr hb p g (300 * i + 3 * k) n m V H True r H (fun _ => False)) (fun si _ => PP.length - (intOf si).toNat)
        case atStart => exact ⟨0, Nat.zero_le _, rfl, D.out⟩
        case round =>
          clear D
          obtain ⟨k, hk, rfl, d⟩ := hrel
          have c1 := cPl _ _ d
          go_wp2_with fail
          refine c1.mono ?_
          rintro e w3 ⟨v3, rfl, r3, d3⟩
          obtain ⟨a3, b3, rfl, _, _⟩ := r3.len
          clear c1 d r3
          by_cases hkl : k < PP.length
          · have hkl2 : (k : Int) < (PP.length : Int) := by omega
            have hx : PP[k]? = some PP[k] := by simp [hkl]
            generalize PP[k] = x at hx
            obtain ⟨hx0, hx1⟩ := hPT.out x (List.mem_of_getElem? hx)
            have c2 := cPl _ _ d3
            have HX := (show Hid _ from hx)
            clear hx
            go_wp2_with fail
            refine c2.mono ?_
            rintro e w4 ⟨v4, rfl, r4, d4⟩
            obtain ⟨b4, c4, rfl, _, _, _, k4⟩ := r4.cell HX.out
            have c5 := cG _ _ d4 (by omega) x
            rw [hx0] at c5
            clear c2 d3 r4
            go_wp2_with fail
            refine c5.mono ?_
            rintro e w5 ⟨rfl, d5⟩
            have c6 := cPl _ _ d5
            clear c5 d4
            go_wp2_with fail
            refine c6.mono ?_
            rintro e w6 ⟨v6, rfl, r6, d6⟩
            obtain ⟨b6, c6', rfl, _, _, _, k6⟩ := r6.cell HX.out
            have c7 := cRG _ _ d6 x hx1
            rw [hx0] at c7
            clear c6 d5 r6
            generalize getHS n H x = GS at *
            go_wp2_with fail
            refine c7.mono ?_
            rintro e w7 ⟨rfl, d7⟩
            clear c7 d6
            go_wp2_with fail
            go_roundw
            case rel => exact ⟨k + 1, by omega, by go_num, d7.mono (by omega)⟩
            case measure => simp [intOf]; omega
          · have hkl2 : decide ((k : Int) < (PP.length : Int)) = false := by simp; omega
            have cW3 := cW w3
            have HB : Hid (Below w.heap.size w w3) := d3.bel
            clear d3 cPl cG cRG cW
            go_wp2_with fail
            refine cW3.mono ?_
            rintro e w5 ⟨rfl, b5⟩
            go_wp2_with fail
            go_ret
            exact ⟨rfl, below2 HB.out b5⟩

set_option maxRecDepth 100000 in
theorem heapPlays_any {H : Type} {enc : TypeId × Value → H} {base : Nat} {d0 : DataW H} {p0 : List MemPlace} (sec fr : Int) (v0 : Value) (w : World) (hsec : -9223372036854775808 ≤ sec ∧ sec ≤ 9223372036854775807) (hfr : -9223372036854775808 ≤ fr ∧ fr ≤ 9223372036854775807) (hv0 : Value.okWide Tryz.prog w .any base 22 v0) (h0 : DataW.Trod enc Tryz.prog w 0 (fun _ => true) true 22 v0 d0 p0) :
    Calls Tryz.prog 3 #[.int .i64 sec, .int .i64 fr, v0] w fun e w' => e = .returned (.bool true) ∧ Below w.heap.size w w' := by
  obtain ⟨a0, L, c0, rfl, r1, r2, r3, r4⟩ := open_steps hv0 h0
  exact heapPlays_on sec fr a0 L c0 w hsec hfr r1 r4 (by omega)

end Go.Proofs.YtjmdenlocmleiaaGreat

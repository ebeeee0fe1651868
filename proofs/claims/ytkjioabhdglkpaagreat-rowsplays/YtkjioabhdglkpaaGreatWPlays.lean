/- RowsPlays: the walk. -/
import Derived.Test.YtkjioabhdglkpaaGreatWAll2
namespace Go.Proofs.YtkjioabhdglkpaaGreat
open Go.RowKit Go.ChangeShapes Go.WideShapes Go.ChangeAt

theorem tmod_i64 {x : Int} (h : i64B x) : i64B (x.tmod 1000) := by
  unfold i64B at *
  have h1 := Int.mul_tdiv_add_tmod x 1000
  by_cases q : x < 0
  · have h2 := Int.tmod_nonneg (a := -x) 1000 (by omega)
    have h3 := Int.tmod_lt_of_pos (-x) (b := 1000) (by decide)
    rw [Int.neg_tmod] at h2 h3
    omega
  · have h2 := Int.tmod_nonneg (a := x) 1000 (by omega)
    have h3 := Int.tmod_lt_of_pos x (b := 1000) (by decide)
    omega

set_option maxHeartbeats 12800000 in
set_option maxRecDepth 100000 in
theorem rowsPlays_on (sec : Int) (a0 : Option Addr) (L : List Wp1) (cap : Nat) (W : World) (hs : i64B sec) (hL : SlG W a0 3 Wp1.cells L) (hcap : L.length ≤ maxLen) (hok : ∀ s ∈ L, s.ok) :
    Calls Tryz.prog 3 #[.int .i64 sec, .slice a0 L.length cap] W fun e w' => e = .returned (.bool true) ∧ Below W.heap.size W w' := by
  have cD := mod_any sec 60 W hs.1 hs.2 (by decide) (by decide)
  have HL := (show Hid _ from hL)
  have HK := (show Hid _ from hok)
  clear hok
  go_enter Tryz.func3, Tryz.ntmps3
  go_wp2_with fail
  refine cD.mono ?_
  rintro e w1 ⟨r, rfl, hr, hw⟩
  rw [hw]
  clear hw cD w1
  obtain ⟨n, hn⟩ : ∃ n : Nat, n = 2 + r := ⟨_, rfl⟩
  have hn1 : (2 : Int) + (r : Int) = (n : Int) := by omega
  have hnb : 2 ≤ n ∧ n ≤ 61 := by omega
  have cM := made9_any n 3 (by omega) (by decide) W
  clear hn
  go_wp2_with fail
  refine cM.mono ?_
  rintro e w1 ⟨g, p, hb, rb, rfl, r1⟩
  have HR := (show Hid _ from r1)
  have cF := fair9_any a0 L cap w1 (hL.kept r1.bel) hcap
  clear cM r1
  go_wp2_with fail
  refine cF.mono ?_
  rintro e w2 ⟨rfl, hw⟩
  rw [hw]
  clear hw cF hL w2
  cases hfr : fair9 L
  · have cW := wakes9_any w1
    go_wp2_with fail
    refine cW.mono ?_
    rintro e w3 ⟨rfl, b3⟩
    clear cW
    go_wp2_with fail
    go_ret
    exact ⟨rfl, below2 HR.out.bel b3⟩
  have HF := (show Hid _ from fair9_of hfr)
  have HB0 := (show Hid _ from Bo.start HR.out)
  have hlen2 : L.length ≤ 60 := HF.out.1
  clear hfr
  go_wp2_with fail
  generalize w1.heap.size = q at *
  generalize w1.alloc (.cells #[.slice none 0 0] 34) = w2 at *
  go_loopw [8, 11] (fun sr si wr => ∃ (i rb : Nat) (rs : List Ro) (v : Value) (E : Nat → Prop), i ≤ L.length ∧ si = .int .i64 (i : Int) ∧ sr = .pointer (some ⟨rb, 0, none⟩) ∧ Hid (rs.length ≤ i ∧ Bo W wr rb hb p g (3 * n + 6 + 30000 * i) n 3 rs q v E)) (fun _ si _ => L.length - (Go.RowKit.intOf si).toNat)
  case atStart => exact ⟨0, rb, [], _, _, Nat.zero_le _, rfl, rfl, by simp, HB0.out⟩
  case round =>
    clear HB0 HR
    obtain ⟨i, rb, rs, v, E, hi, rfl, rfl, hr⟩ := hrel
    by_cases hlt : i < L.length
    · have hlt2 : (i : Int) < (L.length : Int) := by omega
      have hx : L[i]? = some L[i] := by simp [hlt]
      generalize L[i] = s at hx
      have hok := HK.out s (List.mem_of_getElem? hx)
      have hiB := hok.iB
      have hkB := hok.kB
      have htB := HF.out.2 s (List.mem_of_getElem? hx)
      rcases HL.out with hL2 | ⟨b, off, rfl, hlb, hcell⟩
      · rw [hL2] at hlt; simp at hlt
      have S0 : Hid (W.cell? ⟨b, off + i * 3, none⟩ = some (.int .i64 s.kind)) := hcell i s hx 0 _ rfl
      have S1 : Hid (W.cell? ⟨b, off + i * 3 + 1, none⟩ = some (.int .i64 s.id)) := hcell i s hx 1 _ rfl
      have S2 : Hid (W.cell? ⟨b, off + i * 3 + 2, none⟩ = some (.string s.text)) := hcell i s hx 2 _ rfl
      have s0 := (hr.out.2.rz.bel.cell (p := ⟨b, _, none⟩) hlb).trans S0.out
      have s1 := (hr.out.2.rz.bel.cell (p := ⟨b, _, none⟩) hlb).trans S1.out
      have s2 := (hr.out.2.rz.bel.cell (p := ⟨b, _, none⟩) hlb).trans S2.out
      clear hcell hx hok S0 S1 S2
      obtain ⟨kk, id, tx⟩ := s
      simp only at s0 s1 s2 hiB hkB htB
      have B3 := (show Hid _ from hr.out.2.box (.cells #[.int .i64 kk, .int .i64 id, .string tx] 36))
      have n3 := heap_alloc_new wr (.cells #[.int .i64 kk, .int .i64 id, .string tx] 36)
      have HLN : Hid (rs.length ≤ i) := hr.out.1
      have HX := (show Hid _ from n3)
      have x0 := cell_in n3 0 _ rfl
      have x1 := cell_in n3 1 _ rfl
      have x2 := cell_in n3 2 _ rfl
      clear hr n3
      have K0 := (show Hid _ from And.intro hkB htB)
      by_cases k1 : kk = 1
      · subst k1
        have cA := B3.out.drew.del1 (by omega) (by decide) (by have := HLN.out; omega) hiB
        go_upto_region 20 with fail
        generalize wr.alloc (.cells #[.int .i64 1, .int .i64 id, .string tx] 36) = w3 at *
        generalize wr.heap.size = X at *
        apply wp_end (R := fun U => (∃ v', Bo W U rb hb p g (3 * n + 6 + 30000 * i + 108) n 3 (delS rs id) q v' (fun k => k = X)) ∧ U.heap[X]? = w3.heap[X]?)
        case h =>
          go_region_held3 (fun U => U.cell? ⟨X, 1, none⟩ = some (.int .i64 id)) (first | exact hB | exact x1 | go_keep)
            (first
              | (have _ := cB; go_at_call 16; refine (cB _ (Below.refl _ _)).mono ?_; rintro e w5 ⟨rfl, hbo, kB⟩; have hB := (World.cell?_of_block (w := w3) (kB X rfl)).trans x1)
              | (go_at_call 15; refine cA.mono ?_; rintro e w4 ⟨rfl, kA, cB⟩; have hB := (World.cell?_of_block (w := w3) (kA X rfl)).trans x1))
          all_goals exact EndQ.mk ⟨hbo, kB X rfl⟩
        rintro w5 ⟨⟨v5, b5⟩, h5⟩
        have HB9 := (show Hid _ from b5)
        have HS9 := (show Hid _ from h5.trans HX.out)
        have HLS : Hid ((delS rs id).length ≤ i + 1) := by have h1 := (delR_of rs id).len; have h2 := HLN.out; show _ ≤ _; omega
        clear cA b5 h5 x0 x1 x2 s0 s1 s2
        have hS9 := HS9.out
        have q91 := cell_in hS9 1 _ rfl
        have cSame := same9_any HB9.out (by omega) (by decide) (by omega) (by have := HLS.out; omega) hiB
        go_wp2_with fail
        refine cSame.mono ?_
        rintro e w9 ⟨rfl, b9, _⟩
        have B9 := (show Hid _ from b9)
        clear cSame b9 q91 hS9
        go_wp2_with fail
        go_roundw
        case rel => exact ⟨i + 1, _, _, _, _, by omega, by go_num, rfl, HLS.out, B9.out.mono (by omega)⟩
        case measure => simp [Go.RowKit.intOf]; omega
      have e1k : (kk == 1) = false := by simpa using k1
      by_cases k2 : kk = 2
      · subst k2
        obtain ⟨md, hmd⟩ : ∃ md, id.tmod 1000 = md := ⟨_, rfl⟩
        have hmB : i64B md := by rw [← hmd]; exact tmod_i64 hiB
        have cE := B3.out.rz.evict (by omega) md hmB
        clear k1
        have HMB := (show Hid _ from hmB)
        go_wp2_with fail
        refine cE.mono ?_
        rintro e w5 ⟨Y, rfl, t5⟩
        have HB9 := (show Hid _ from B3.out.step t5 rfl)
        have HS9 := (show Hid _ from (t5.keep wr.heap.size (Or.inr rfl)).trans HX.out)
        have HLS : Hid (rs.length ≤ i + 1) := by have h2 := HLN.out; show _ ≤ _; omega
        clear cE t5 x0 x1 x2 s0 s1 s2
        have hS9 := HS9.out
        have q91 := cell_in hS9 1 _ rfl
        have cSame := same9_any HB9.out (by omega) (by decide) (by omega) (by have := HLS.out; omega) hiB
        go_wp2_with fail
        refine cSame.mono ?_
        rintro e w9 ⟨rfl, b9, _⟩
        have B9 := (show Hid _ from b9)
        clear cSame b9 q91 hS9
        go_wp2_with fail
        go_roundw
        case rel => exact ⟨i + 1, _, _, _, _, by omega, by go_num, rfl, HLS.out, B9.out.mono (by omega)⟩
        case measure => simp [Go.RowKit.intOf]; omega
      have e2k : (kk == 2) = false := by simpa using k2
      by_cases k3 : kk = 3
      · subst k3
        have cN := B3.out.rz.renew (by omega) (by decide) (by omega) (by have := HLN.out; omega)
        clear k1 k2
        go_wp2_with fail
        refine cN.mono ?_
        rintro e w5 ⟨rb5, rfl, _, t5⟩
        have HB9 := (show Hid _ from B3.out.step t5 rfl)
        have HS9 := (show Hid _ from (t5.keep wr.heap.size (Or.inr rfl)).trans HX.out)
        have HLS : Hid (rs.length ≤ i + 1) := by have h2 := HLN.out; show _ ≤ _; omega
        clear cN t5 x0 x1 x2 s0 s1 s2
        have hS9 := HS9.out
        have q91 := cell_in hS9 1 _ rfl
        have cSame := same9_any HB9.out (by omega) (by decide) (by omega) (by have := HLS.out; omega) hiB
        go_wp2_with fail
        refine cSame.mono ?_
        rintro e w9 ⟨rfl, b9, _⟩
        have B9 := (show Hid _ from b9)
        clear cSame b9 q91 hS9
        go_wp2_with fail
        go_roundw
        case rel => exact ⟨i + 1, _, _, _, _, by omega, by go_num, rfl, HLS.out, B9.out.mono (by omega)⟩
        case measure => simp [Go.RowKit.intOf]; omega
      have e3k : (kk == 3) = false := by simpa using k3
      by_cases k0 : kk = 0
      · subst k0
        obtain ⟨d, hd⟩ : ∃ d, d = tx.size / 360 := ⟨_, rfl⟩
        have q1 : (tx.size : Int).tdiv 360 = (d : Int) := by rw [Int.tdiv_eq_ediv_of_nonneg (by omega)]; omega
        have q2 : (tx.size : Int) / 360 = (d : Int) := by omega
        have hdb : d ≤ 100 := by omega
        have HC : Hid (cntN tx.size = d + 1) := by show _ = _; unfold cntN; omega
        have cP := roput_at (i := id) (text := tx) B3.out.rz (by omega) (by decide) (by omega) (by have := HLN.out; omega)
        have HRI := (show Hid _ from B3.out.rz.rise)
        have HRK := (show Hid _ from B3.out.rz.rok)
        clear k1 k2 k3 hd
        go_wp2_with fail
        refine cP.mono ?_
        rintro e w5 ⟨Y, rs5, rfl, t5, pr⟩
        have HD5 := (show Hid _ from B3.out.mid t5)
        have HS5 := (show Hid _ from (t5.keep wr.heap.size (Or.inr rfl)).trans HX.out)
        have HT5 := (show Hid _ from t5)
        have HPR := (show Hid _ from pr)
        have hS5 := HS5.out
        have y1 := cell_in hS5 1 _ rfl
        have y2 := cell_in hS5 2 _ rfl
        have HLS : Hid (rs5.length ≤ i + 1) := by have h1 := pr.len; have h2 := HLN.out; show _ ≤ _; omega
        clear cP t5 pr x0 x1 x2 s0 s1 s2 hS5
        by_cases hY : Y = 50
        · subst hY
          have hrs : rs5 = rs ∧ n ≤ pieN rs + cntN tx.size := by
            rcases HPR.out.out with ⟨h, _⟩ | ⟨h, _⟩ | ⟨_, _, _, ⟨_, h, h'⟩ | ⟨h, _⟩⟩
            · omega
            · omega
            · exact ⟨h', h⟩
            · omega
          obtain ⟨hrs1, hrs2⟩ := hrs
          have cA := rdall_any HD5.out (by rw [lR_len]; have := HLN.out; omega) (fun y hy => by
            obtain ⟨x, hx, rfl⟩ := List.mem_map.1 hy
            exact (HRK.out x hx).text)
          rw [lR_all] at cA
          obtain ⟨PN, hPN⟩ : ∃ PN, pieN rs = PN := ⟨_, rfl⟩
          have hPb : PN ≤ 127 * n := by rw [← hPN]; exact B3.out.rz.pie_le
          have hneed : decide ((PN : Int) + ((d : Int) + 1) ≤ (n : Int) - 1) = false := by have := HC.out; simp; omega
          rw [hPN] at cA
          have HB9 := (show Hid _ from B3.out.step HT5.out (by rw [hrs1]))
          have HS9 := (show Hid _ from HS5.out)
          clear hrs1 hrs2 hPN y2
          go_wp2_with fail
          refine cA.mono ?_
          rintro e w6 ⟨rfl, hw⟩
          rw [hw]
          clear cA hw
          have hS9 := HS9.out
          have q91 := cell_in hS9 1 _ rfl
          have cSame := same9_any HB9.out (by omega) (by decide) (by omega) (by have := HLS.out; omega) hiB
          go_wp2_with fail
          refine cSame.mono ?_
          rintro e w9 ⟨rfl, b9, _⟩
          have B9 := (show Hid _ from b9)
          clear cSame b9 q91 hS9
          go_wp2_with fail
          go_roundw
          case rel => exact ⟨i + 1, _, _, _, _, by omega, by go_num, rfl, HLS.out, B9.out.mono (by omega)⟩
          case measure => simp [Go.RowKit.intOf]; omega
        · have hYb : (Y == 50) = false := by simpa using hY
          have cR := rdput_at HD5.out HT5.out.rz.bel.size HRI.out (by have := HLN.out; omega) hY HPR.out
          have HAP := (show Hid _ from B3.out.ap)
          clear hY
          go_wp2_with fail
          refine cR.mono ?_
          rintro e w6 ⟨rfl, t6⟩
          obtain ⟨⟨v6, b6⟩, k6⟩ := HT5.out.rz.met HAP.out t6
          have HB9 := (show Hid _ from b6)
          have HS9 := (show Hid _ from (k6 wr.heap.size rfl).trans HS5.out)
          clear cR t6 b6 k6 y1 y2
          have hS9 := HS9.out
          have q91 := cell_in hS9 1 _ rfl
          have cSame := same9_any HB9.out (by omega) (by decide) (by omega) (by have := HLS.out; omega) hiB
          go_wp2_with fail
          refine cSame.mono ?_
          rintro e w9 ⟨rfl, b9, _⟩
          have B9 := (show Hid _ from b9)
          clear cSame b9 q91 hS9
          go_wp2_with fail
          go_roundw
          case rel => exact ⟨i + 1, _, _, _, _, by omega, by go_num, rfl, HLS.out, B9.out.mono (by omega)⟩
          case measure => simp [Go.RowKit.intOf]; omega
      · have e0k : (kk == 0) = false := by simpa using k0
        clear k0 k1 k2 k3
        have HB9 := (show Hid _ from B3.out)
        have HS9 := (show Hid _ from HX.out)
        have HLS : Hid (rs.length ≤ i + 1) := by have h2 := HLN.out; show _ ≤ _; omega
        clear x2
        have hS9 := HS9.out
        have q91 := cell_in hS9 1 _ rfl
        have cSame := same9_any HB9.out (by omega) (by decide) (by omega) (by have := HLS.out; omega) hiB
        go_wp2_with fail
        refine cSame.mono ?_
        rintro e w9 ⟨rfl, b9, _⟩
        have B9 := (show Hid _ from b9)
        clear cSame b9 q91 hS9
        go_wp2_with fail
        go_roundw
        case rel => exact ⟨i + 1, _, _, _, _, by omega, by go_num, rfl, HLS.out, B9.out.mono (by omega)⟩
        case measure => simp [Go.RowKit.intOf]; omega
    · have hge : ¬ ((i : Int) < (L.length : Int)) := by omega
      have cW := wakes9_any wr
      have HB := (show Hid _ from hr.out.2.rz.bel)
      clear hr
      go_wp2_with fail
      refine cW.mono ?_
      rintro e w3 ⟨rfl, b3⟩
      clear cW
      go_wp2_with fail
      go_ret
      exact ⟨rfl, below2 HB.out b3⟩
set_option maxRecDepth 100000 in
theorem rowsPlays_any {H : Type} {enc : TypeId × Value → H} {base : Nat} {d : DataW H} {ps : List MemPlace} (sec : Int) (v : Value) (W : World) (hs : -9223372036854775808 ≤ sec ∧ sec ≤ 9223372036854775807) (hv : Value.okWide Tryz.prog W .any base 22 v) (h : DataW.Trod enc Tryz.prog W 0 (fun _ => true) true 22 v d ps) :
    Calls Tryz.prog 3 #[.int .i64 sec, v] W fun e w' => e = .returned (.bool true) ∧ Below W.heap.size W w' := by
  obtain ⟨a, L, cap, rfl, hL, h1, h2, h3⟩ := open_steps9 hv h
  exact rowsPlays_on sec a L cap W hs hL (Nat.le_trans h1 h2) h3
end Go.Proofs.YtkjioabhdglkpaaGreat

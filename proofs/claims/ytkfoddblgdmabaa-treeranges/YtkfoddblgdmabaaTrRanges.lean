/- TreeRanges: the walk. -/
import Derived.Test.YtkfoddblgdmabaaTrSteps
namespace Go.Proofs.Ytkfoddblgdmabaa.tr
open Go.RowKit

theorem tk_len (to : ByteArray) (most : Int) : ∀ (L acc : List Ent), (tk to most acc L).length ≤ acc.length + L.length
  | [], acc => by simp [tk]
  | x :: L, acc => by
    rw [tk]
    split
    · omega
    · have := tk_len to most L (acc ++ [x])
      simp at this ⊢
      omega

set_option maxHeartbeats 25600000 in
set_option maxRecDepth 100000 in
theorem ranges_on (a0 : Option Addr) (L : List Sp) (cap : Nat) (s0 s1 : ByteArray) (most : Int) (W : World) (hL : SlS W a0 L) (hcap : L.length ≤ maxLen) :
    Calls Try.prog 4 #[.slice a0 L.length cap, .agg #[.string s0, .string s1], .int .i64 most] W fun e w' => e = .returned (.bool true) ∧ Below W.heap.size W w' := by
  have hb0 := below_alloc1 W (.cells #[.string s0, .string s1] 48)
  have n0 := heap_alloc_new W (.cells #[.string s0, .string s1] 48)
  have x0 := (cell_obj (j := 0) n0).1
  have x1 := (cell_obj (j := 1) n0).1
  have hL0 := hL.kept hb0
  have HB0 : Hid (Below W.heap.size W (W.alloc (.cells #[.string s0, .string s1] 48))) := hb0
  clear hL hb0 n0
  go_enter Try.func4, Try.ntmps4
  go_wp2_with fail
  generalize W.alloc (.cells #[.string s0, .string s1] 48) = W0 at *
  go_quiet (fail)
  have HB1 : Hid (Below W.heap.size W (W0.drewN nq)) := HB0.out.trans ((below_drewN W0 nq).mono HB0.out.size)
  have hL1 := hL0.kept (below_drewN W0 nq)
  generalize W0.drewN nq = W1 at *
  clear x0 x1 hL0 HB0
  have cN := new_any W1 4 (by decide) (by decide)
  go_wp2_with fail
  refine cN.mono ?_
  rintro e w1 ⟨tb, M, rfl, t1, h1⟩
  have cF := fair_any a0 L cap w1 (hL1.kept h1) hcap
  have HT := (show Hid _ from And.intro t1 h1)
  have HL : Hid (SlS W1 a0 L) := hL1
  clear cN t1 h1 hL1
  go_wp2_with fail
  refine cF.mono ?_
  rintro e w2 ⟨rfl, hw⟩
  rw [hw]
  clear hw cF w2
  have cW := wakes_any w1
  have HE : Hid (∀ w', Below w1.heap.size w1 w' → Below W.heap.size W w') := fun w' h => HB1.out.trans ((below2 HT.out.2 h).mono HB1.out.size)
  cases hfr : fairL L
  · go_wp2_with fail
    refine cW.mono ?_
    rintro e w3 ⟨rfl, b3⟩
    clear cW
    go_wp2_with fail
    go_ret
    exact ⟨rfl, HE.out _ b3⟩
  by_cases hs0 : 5000 < s0.size
  · have hs0i : (5000 : Int) < (s0.size : Int) := by omega
    go_wp2_with fail
    refine cW.mono ?_
    rintro e w3 ⟨rfl, b3⟩
    clear cW
    go_wp2_with fail
    go_ret
    exact ⟨rfl, HE.out _ b3⟩
  have hs0i : ¬ ((5000 : Int) < (s0.size : Int)) := by omega
  by_cases hs1 : 5000 < s1.size
  · have hs1i : (5000 : Int) < (s1.size : Int) := by omega
    go_wp2_with fail
    refine cW.mono ?_
    rintro e w3 ⟨rfl, b3⟩
    clear cW
    go_wp2_with fail
    go_ret
    exact ⟨rfl, HE.out _ b3⟩
  have hs1i : ¬ ((5000 : Int) < (s1.size : Int)) := by omega
  have HF := (show Hid _ from fair_of hfr)
  have hB0 := Bt.start HT.out.1 HT.out.2
  have hlen2 : L.length ≤ 400 := HF.out.1
  clear hfr HT cW HE
  go_wp2_with fail
  generalize w1.heap.size = q at *
  generalize w1.alloc (.cells #[.slice none 0 0] 32) = w2 at *
  go_loopw [12] (fun si wr => ∃ (i : Nat) (Lx : List Ent), i ≤ L.length ∧ si = .int .i64 (i : Int) ∧ Hid (Bt W1 wr tb 4 q Lx Lx)) (fun si _ => L.length - (Go.RowKit.intOf si).toNat)
  case atStart => exact ⟨0, [], Nat.zero_le _, rfl, hB0⟩
  case round =>
    clear hB0
    obtain ⟨i, Lx, hi, rfl, hr⟩ := hrel
    by_cases hlt : i < L.length
    · have hlt2 : (i : Int) < (L.length : Int) := by omega
      have hx : L[i]? = some L[i] := by simp [hlt]
      generalize L[i] = s at hx
      have hks := HF.out.2 s (List.mem_of_getElem? hx)
      obtain ⟨b, off, rfl, hst⟩ := HL.out.step hx
      have HC : Hid (∀ V, Below W1.heap.size W1 V → V.cell? ⟨b, off + i * 3 + 1, none⟩ = some (.string s.key) ∧ V.cell? ⟨b, off + i * 3 + 2, none⟩ = some (.int .i64 s.n)) := fun V hV => ⟨(hst.below hV).c1, (hst.below hV).c2⟩
      have y0 := (hst.below hr.out.bel).c0
      obtain ⟨y1, y2⟩ := HC.out _ hr.out.bel
      clear hst hx
      obtain ⟨kk, key, z⟩ := s
      simp only at y0 y1 y2 hks HC
      by_cases k1 : kk = 1
      · subst k1
        have cP := hr.out.del key
        go_wp2_with fail
        refine cP.mono ?_
        rintro e w4 ⟨rfl, b4, o4⟩
        obtain ⟨v1, v2⟩ := HC.out _ b4.bel
        have cQ := b4.rdel key hr.out.srt
        clear cP b4 o4 y0 y1 y2
        go_wp2_with fail
        refine cQ.mono ?_
        rintro e w5 ⟨rfl, b5, o5⟩
        have HB5 := (show Hid _ from b5)
        clear cQ b5 o5 v1 v2
        go_wp2_with fail
        go_roundw
        case rel => exact ⟨i + 1, _, by omega, by go_num, HB5.out⟩
        case measure => simp [Go.RowKit.intOf]; omega
      have e1k : (kk == 1) = false := by simpa using k1
      clear k1
      have cP := (hr.out.below (below_drew wr)).put key z (by omega)
      have hS := HC.out _ (hr.out.below (below_drew wr)).bel
      go_wp2_with fail
      apply wp_end (R := fun U => Bt W1 U tb 4 q (putT key z Lx).2.2 Lx)
      case h =>
        go_region_held3 (fun U => U.cell? ⟨b, off + i * 3 + 1, none⟩ = some (.string key) ∧ U.cell? ⟨b, off + i * 3 + 2, none⟩ = some (.int .i64 z)) (first | exact hB | exact hS | go_keep)
          (first | (go_at_call 12; refine cP.mono ?_; rintro e w4 ⟨rfl, b5, o5⟩; have hB := HC.out _ b5.bel))
        all_goals exact EndQ.mk b5
      rintro w4 b5
      have HB4 := (show Hid _ from b5)
      clear cP hS b5
      clear y0 y1 y2
      have cP := (HB4.out.below (below_drew w4)).rput key z hr.out.srt
      have hS := HC.out _ (HB4.out.below (below_drew w4)).bel
      go_wp2_with fail
      apply wp_end (R := fun U => Bt W1 U tb 4 q (putT key z Lx).2.2 (putT key z Lx).2.2)
      case h =>
        go_region_held3 (fun U => U.cell? ⟨b, off + i * 3 + 1, none⟩ = some (.string key) ∧ U.cell? ⟨b, off + i * 3 + 2, none⟩ = some (.int .i64 z)) (first | exact hB | exact hS | go_keep)
          (first | (go_at_call 13; refine cP.mono ?_; rintro e w5 ⟨rfl, b5, o5⟩; have hB := HC.out _ b5.bel))
        all_goals exact EndQ.mk b5
      rintro w5 b5
      have HB5 := (show Hid _ from b5)
      clear cP hS b5
      go_wp2_with fail
      go_roundw
      case rel => exact ⟨i + 1, _, by omega, by go_num, HB5.out⟩
      case measure => simp [Go.RowKit.intOf]; omega
    · obtain rfl : i = L.length := by omega
      have cA := hr.out.range s0 s1 most
      go_wp2_with fail
      refine cA.mono ?_
      rintro e w3 ⟨v3, rfl, row3, b3, h3⟩
      have cB := b3.rrange s0 s1 most
      have HR3 := (show Hid _ from row3)
      have HB3 := (show Hid _ from And.intro b3 (below2 hr.out.bel h3))
      clear cA row3 b3 h3
      go_wp2_with fail
      refine cB.mono ?_
      rintro e w4 ⟨v4, rfl, row4, b4, h4⟩
      have cS := same_any (HR3.out.below' h4) row4 (by have := tk_len s1 most (rg s0 Lx) []; have := rg_len s0 Lx; have := hr.out.len; simp at *; omega)
      have HB4 := (show Hid _ from And.intro b4 (below2 HB3.out.2 h4))
      clear cB row4 b4 h4
      go_wp2_with fail
      refine cS.mono ?_
      rintro e w5 ⟨rfl, h5⟩
      have HB5 := (show Hid _ from And.intro (HB4.out.1.below h5) (below2 HB4.out.2 h5))
      have cA := HB5.out.1.range s0 s1 4096
      clear cS h5
      go_wp2_with fail
      refine cA.mono ?_
      rintro e w6 ⟨v6, rfl, row6, b6, h6⟩
      have cB := b6.rrange s0 s1 4096
      have HR6 := (show Hid _ from row6)
      have HB6 := (show Hid _ from And.intro b6 (below2 HB5.out.2 h6))
      clear cA row6 b6 h6
      go_wp2_with fail
      refine cB.mono ?_
      rintro e w7 ⟨v7, rfl, row7, b7, h7⟩
      have cS := same_any (HR6.out.below' h7) row7 (by have := tk_len s1 4096 (rg s0 Lx) []; have := rg_len s0 Lx; have := hr.out.len; simp at *; omega)
      have HB7 := (show Hid _ from below2 HB6.out.2 h7)
      clear cB row7 b7 h7
      go_wp2_with fail
      refine cS.mono ?_
      rintro e w8 ⟨rfl, h8⟩
      have HB8 := (show Hid _ from below2 HB7.out h8)
      have cW := wakes_any w8
      clear cS h8
      go_wp2_with fail
      refine cW.mono ?_
      rintro e w9 ⟨rfl, h9⟩
      have hb9 := below2 HB8.out h9
      clear cW h9
      go_wp2_with fail
      go_ret
      exact ⟨rfl, HB1.out.trans (hb9.mono HB1.out.size)⟩

set_option maxRecDepth 100000 in
theorem treeRanges_on (v0 v1 : Value) (most : Int) (W : World) {H : Type} {enc : TypeId × Value → H} {base : Nat} {d0 d1 : DataW H} {p0 p1 : List MemPlace} (hv0 : Value.okWide Try.prog W .any base 22 v0) (h0 : DataW.Trod enc Try.prog W 0 (fun _ => true) true 22 v0 d0 p0)
    (hv1 : Value.okWide Try.prog W .any base 48 v1) (h1 : DataW.Trod enc Try.prog W 0 (fun _ => true) true 48 v1 d1 p1) (_hm : -9223372036854775808 ≤ most ∧ most ≤ 9223372036854775807) :
    Calls Try.prog 4 #[v0, v1, .int .i64 most] W fun e w' => e = .returned (.bool true) ∧ Below W.heap.size W w' := by
  obtain ⟨a, L, cap, rfl, hL, hc, hm, _⟩ := open_steps hv0 h0
  obtain ⟨s0, s1, rfl⟩ := open_two hv1 h1
  exact ranges_on a L cap s0 s1 most W hL (Nat.le_trans hc hm)

end Go.Proofs.Ytkfoddblgdmabaa.tr

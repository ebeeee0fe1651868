/- TreeCopies: the walk. -/
import Derived.Test.YtkfoddblgdmabaaTrSteps
import Derived.Test.YtkfoddblgdmabaaTrThree
namespace Go.Proofs.Ytkfoddblgdmabaa.tr
open Go.RowKit

set_option maxHeartbeats 25600000 in
set_option maxRecDepth 100000 in
theorem copies_on (a0 : Option Addr) (L : List Sp) (cap : Nat) (a1 : Option Addr) (L1 : List Sp) (cap1 : Nat) (W : World) (hL : SlS W a0 L) (hcap : L.length ≤ maxLen) (hL1 : SlS W a1 L1) (hcap1 : L1.length ≤ maxLen) :
    Calls Try.prog 6 #[.slice a0 L.length cap, .slice a1 L1.length cap1] W fun e w' => e = .returned (.bool true) ∧ Below W.heap.size W w' := by
  have cN := new_any W 5 (by decide) (by decide)
  go_enter Try.func6, Try.ntmps6
  go_wp2_with fail
  refine cN.mono ?_
  rintro e w1 ⟨tb, M, rfl, t1, h1⟩
  have cF := fair_any a0 L cap w1 (hL.kept h1) hcap
  have cF1 := fair_any a1 L1 cap1 w1 (hL1.kept h1) hcap1
  have HT := (show Hid _ from And.intro t1 h1)
  have HL : Hid (SlS W a0 L) := hL
  have HL1 : Hid (SlS W a1 L1) := hL1
  clear cN t1 h1 hL hL1
  go_wp2_with fail
  refine cF.mono ?_
  rintro e w2 ⟨rfl, hw⟩
  rw [hw]
  clear hw cF w2
  have cW := wakes_any w1
  cases hfr : fairL L
  · go_wp2_with fail
    refine cW.mono ?_
    rintro e w3 ⟨rfl, b3⟩
    clear cW
    go_wp2_with fail
    go_ret
    exact ⟨rfl, below2 HT.out.2 b3⟩
  go_wp2_with fail
  refine cF1.mono ?_
  rintro e w2 ⟨rfl, hw⟩
  rw [hw]
  clear hw cF1 w2
  cases hfr1 : fairL L1
  · go_wp2_with fail
    refine cW.mono ?_
    rintro e w3 ⟨rfl, b3⟩
    clear cW
    go_wp2_with fail
    go_ret
    exact ⟨rfl, below2 HT.out.2 b3⟩
  have HF := (show Hid _ from fair_of hfr)
  have HF1 := (show Hid _ from fair_of hfr1)
  have hB0 := Bt.start HT.out.1 HT.out.2
  have hlen2 : L.length ≤ 400 := HF.out.1
  have hlen3 : L1.length ≤ 400 := HF1.out.1
  clear hfr hfr1 HT cW
  go_wp2_with fail
  generalize w1.heap.size = q at *
  generalize w1.alloc (.cells #[.slice none 0 0] 32) = w2 at *
  go_loopw [8] (fun si wr => ∃ (i : Nat) (Lx : List Ent), i ≤ L.length ∧ si = .int .i64 (i : Int) ∧ Hid (Bt W wr tb 5 q Lx Lx)) (fun si _ => L.length - (Go.RowKit.intOf si).toNat)
  case atStart => exact ⟨0, [], Nat.zero_le _, rfl, hB0⟩
  case round =>
    clear hB0
    obtain ⟨i, Lx, hi, rfl, hr⟩ := hrel
    by_cases hlt : i < L.length
    · have hlt2 : (i : Int) < (L.length : Int) := by omega
      have hx : L[i]? = some L[i] := by simp [hlt]
      generalize L[i] = s at hx
      have hks := HF.out.2 s (List.mem_of_getElem? hx)
      obtain ⟨b, off, rfl, hst⟩ := HL.out.step hx
      have HC : Hid (∀ V, Below W.heap.size W V → V.cell? ⟨b, off + i * 3 + 1, none⟩ = some (.string s.key) ∧ V.cell? ⟨b, off + i * 3 + 2, none⟩ = some (.int .i64 s.n)) := fun V hV => ⟨(hst.below hV).c1, (hst.below hV).c2⟩
      have y0 := (hst.below hr.out.bel).c0
      obtain ⟨y1, y2⟩ := HC.out _ hr.out.bel
      clear hst hx
      obtain ⟨kk, key, z⟩ := s
      simp only at y0 y1 y2 hks HC
      have cP := (hr.out.below (below_drew wr)).put key z (by omega)
      have hS := HC.out _ (hr.out.below (below_drew wr)).bel
      go_wp2_with fail
      apply wp_end (R := fun U => Bt W U tb 5 q (putT key z Lx).2.2 Lx)
      case h =>
        go_region_held3 (fun U => U.cell? ⟨b, off + i * 3 + 1, none⟩ = some (.string key) ∧ U.cell? ⟨b, off + i * 3 + 2, none⟩ = some (.int .i64 z)) (first | exact hB | exact hS | go_keep)
          (first | (go_at_call 12; refine cP.mono ?_; rintro e w4 ⟨rfl, b5, o5⟩; have hB := HC.out _ b5.bel))
        all_goals exact EndQ.mk b5
      rintro w4 b5
      have HB4 := (show Hid _ from b5)
      clear cP hS b5
      clear y0 y1 y2
      have cP := (HB4.out.below (below_drew w4)).rput key z hr.out.srt
      have hS := HC.out _ (HB4.out.below (below_drew w4)).bel
      go_wp2_with fail
      apply wp_end (R := fun U => Bt W U tb 5 q (putT key z Lx).2.2 (putT key z Lx).2.2)
      case h =>
        go_region_held3 (fun U => U.cell? ⟨b, off + i * 3 + 1, none⟩ = some (.string key) ∧ U.cell? ⟨b, off + i * 3 + 2, none⟩ = some (.int .i64 z)) (first | exact hB | exact hS | go_keep)
          (first | (go_at_call 13; refine cP.mono ?_; rintro e w5 ⟨rfl, b5, o5⟩; have hB := HC.out _ b5.bel))
        all_goals exact EndQ.mk b5
      rintro w5 b5
      have HB5 := (show Hid _ from b5)
      clear cP hS b5
      go_wp2_with fail
      go_roundw
      case rel => exact ⟨i + 1, _, by omega, by go_num, HB5.out⟩
      case measure => simp [Go.RowKit.intOf]; omega
    · obtain rfl : i = L.length := by omega
      have cC := Tb.copy hr.out
      go_wp2_with fail
      refine cC.mono ?_
      rintro e w3 ⟨tc, rfl, b3⟩
      have HB3 := (show Hid _ from b3)
      clear cC b3
      go_wp2_with fail
      go_loopw [10] (fun si wr => ∃ (i : Nat) (Lt : List Ent), i ≤ L1.length ∧ si = .int .i64 (i : Int) ∧ Hid (Tb W wr tb 5 Lt tc 5 Lx q Lx)) (fun si _ => L1.length - (Go.RowKit.intOf si).toNat)
      case atStart => exact ⟨0, Lx, Nat.zero_le _, rfl, HB3.out⟩
      case round =>
        clear HB3 hr hlt hlen2
        obtain ⟨i, Lt, hi, rfl, hr⟩ := hrel
        by_cases hlt : i < L1.length
        · have hlt2 : (i : Int) < (L1.length : Int) := by omega
          have hx : L1[i]? = some L1[i] := by simp [hlt]
          generalize L1[i] = s at hx
          have hks := HF1.out.2 s (List.mem_of_getElem? hx)
          obtain ⟨b, off, rfl, hst⟩ := HL1.out.step hx
          have HC : Hid (∀ V, Below W.heap.size W V → V.cell? ⟨b, off + i * 3 + 1, none⟩ = some (.string s.key) ∧ V.cell? ⟨b, off + i * 3 + 2, none⟩ = some (.int .i64 s.n)) := fun V hV => ⟨(hst.below hV).c1, (hst.below hV).c2⟩
          have y0 := (hst.below hr.out.bel).c0
          obtain ⟨y1, y2⟩ := HC.out _ hr.out.bel
          clear hst hx
          obtain ⟨kk, key, z⟩ := s
          simp only at y0 y1 y2 hks HC
          by_cases k1 : kk = 1
          · subst k1
            have cP := hr.out.del key
            go_wp2_with fail
            refine cP.mono ?_
            rintro e w4 ⟨rfl, b4, o4⟩
            have HB5 := (show Hid _ from b4)
            clear cP b4 o4 y0 y1 y2
            go_wp2_with fail
            go_roundw
            case rel => exact ⟨i + 1, _, by omega, by go_num, HB5.out⟩
            case measure => simp [Go.RowKit.intOf]; omega
          have e1k : (kk == 1) = false := by simpa using k1
          clear k1
          have cP := (hr.out.below (below_drew _)).put key z (by omega)
          have hS := HC.out _ (hr.out.below (below_drew _)).bel
          go_wp2_with fail
          apply wp_end (R := fun U => Tb W U tb 5 (putT key z Lt).2.2 tc 5 Lx q Lx)
          case h =>
            go_region_held3 (fun U => U.cell? ⟨b, off + i * 3 + 1, none⟩ = some (.string key) ∧ U.cell? ⟨b, off + i * 3 + 2, none⟩ = some (.int .i64 z)) (first | exact hB | exact hS | go_keep)
              (first | (go_at_call 12; refine cP.mono ?_; rintro e w4 ⟨rfl, b5, o5⟩; have hB := HC.out _ b5.bel))
            all_goals exact EndQ.mk b5
          rintro w4 b5
          have HB5 := (show Hid _ from b5)
          clear cP hS b5
          clear y0 y1 y2
          go_wp2_with fail
          go_roundw
          case rel => exact ⟨i + 1, _, by omega, by go_num, HB5.out⟩
          case measure => simp [Go.RowKit.intOf]; omega
        · obtain rfl : i = L1.length := by omega
          have cR := hr.out.swap.one.range ⟨#[]⟩ ⟨#[]⟩ 4096
          rw [rg_empty, tk_all 4096 _ [] (by have := hr.out.swap.one.len; simp; omega), List.nil_append] at cR
          have hl5 := hr.out.swap.one.len
          go_wp2_with fail
          refine cR.mono ?_
          rintro e w5 ⟨v5, rfl, row5, _, h5⟩
          clear cR
          obtain ⟨w0, hw0⟩ : ∃ w0, w0 = wr := ⟨_, rfl⟩
          subst hw0
          obtain ⟨Bv, hBv⟩ : ∃ Bv, w0.heap.size = Bv := ⟨_, rfl⟩
          rw [hBv] at row5
          obtain ⟨va, vc, ev, _, _⟩ := row5.len
          subst ev
          obtain ⟨n, hn⟩ : ∃ n, Lx.length = n := ⟨_, rfl⟩
          have HR5 : Hid (RowE w5 Bv (.slice va n vc) Lx) := by rw [← hn]; exact row5
          have HH5 : Hid (Below Bv w0 w5) := by rw [← hBv]; exact h5
          have HBv : Hid (w0.heap.size = Bv) := hBv
          have HN : Hid (Lx.length = n) := hn
          rw [hn] at hl5 ⊢
          clear row5 h5 hBv hn hlt hlen3 hcap1
          go_wp2_with fail
          go_loopw [12] (fun si wr => ∃ (i : Nat) (Lz : List Ent), i ≤ n ∧ si = .int .i64 (i : Int) ∧ Hid (Lz.length = n) ∧ Hid (RowE wr Bv (.slice va n vc) Lz) ∧ Hid (Below Bv w0 wr)) (fun si _ => n - (Go.RowKit.intOf si).toNat)
          case atStart => exact ⟨0, Lx, Nat.zero_le _, rfl, HN.out, HR5.out, HH5.out⟩
          case round =>
            clear HR5 HH5
            obtain ⟨i, Lz, hi, rfl, hlz, hrz, hbz⟩ := hrel
            by_cases hlt : i < n
            · have hlt2 : (i : Int) < (n : Int) := by omega
              have hx : Lz[i]? = some (Lz[i]'(by rw [hlz.out]; exact hlt)) := by simp
              generalize Lz[i]'(by rw [hlz.out]; exact hlt) = y at hx
              obtain ⟨rb, c, e, _, hB, hbl, s0⟩ := hrz.out.cell gE_len hx
              rw [hlz.out] at e
              injection e with e1 e2 e3
              subst e1
              subst e3
              obtain ⟨r0, f0⟩ := s0 0 _ rfl
              obtain ⟨r1, f1⟩ := s0 1 _ rfl
              rw [Nat.add_zero] at r0 f0
              have hst := row_store (y := ⟨⟨#[]⟩, 0⟩) hrz.out hx (by rw [hlz.out])
              have HST := (show Hid _ from hst)
              have HBL : Hid (∀ u1 u2, Below Bv w0 ((wr.setCell ⟨rb, i * 2, none⟩ u1).setCell ⟨rb, i * 2 + 1, none⟩ u2)) := fun u1 u2 => (hbz.out.setCell (p := ⟨rb, i * 2, none⟩) hB u1).setCell (p := ⟨rb, i * 2 + 1, none⟩) hB u2
              clear s0 hx hst e2
              go_wp2_with fail
              go_roundw
              case rel => exact ⟨i + 1, _, by omega, by go_num, hide (by simpa using hlz.out), HST.out, HBL.out _ _⟩
              case measure => simp [Go.RowKit.intOf]; omega
            · obtain rfl : i = n := by omega
              have hb9 : Below w0.heap.size w0 wr := by rw [HBv.out]; exact hbz.out
              have HB9 := (show Hid _ from hr.out.below hb9)
              clear hb9 hbz hrz hlz
              obtain ⟨M9, v9, t9, r9⟩ := HB9.out.swap.one.ex
              obtain ⟨ua, uc, eu, _, _⟩ := r9.row.len
              rw [HN.out] at eu
              have CE : Hid (∀ V, Below wr.heap.size wr V → V.cell? ⟨q, 0, none⟩ = some (.slice ua i uc)) := fun V hV => by
                have h1 := (r9.below hV).top
                rw [(cell_obj (j := 0) h1).1, ← eu]
                rfl
              have HR9 : Hid (RowR wr W.heap.size (.slice ua i uc) Lx) := by rw [← eu]; exact r9.row
              have hRg : ∀ V, Below wr.heap.size wr V → Calls Try.prog 21 #[.pointer (some ⟨tc, 0, none⟩), .string ⟨#[]⟩, .string ⟨#[]⟩, .int .i64 4096] V fun e w' => ∃ v, e = .returned v ∧ RowE w' V.heap.size v Lx ∧ Below V.heap.size V w' := fun V hV => by
                have h1 := (HB9.out.swap.one.below hV).range ⟨#[]⟩ ⟨#[]⟩ 4096
                rw [rg_empty, tk_all 4096 _ [] (by have := HN.out; simp; omega), List.nil_append] at h1
                exact h1.mono fun e w' ⟨v, he, row, _, h2⟩ => ⟨v, he, row, h2⟩
              have hLn : ∀ V, Below wr.heap.size wr V → Calls Try.prog 25 #[.pointer (some ⟨tc, 0, none⟩)] V fun e w' => e = .returned (.int .i64 (i : Int)) ∧ w' = V := fun V hV => by
                have h1 := (HB9.out.swap.one.below hV).tlen
                rw [HN.out] at h1
                exact h1
              clear r9 t9 eu
              go_wp2_with fail
              refine anyL_begin (S := fun V => Below wr.heap.size wr V) (n := 20) (by kernel_rfl) (below_drew wr) (fun hHeld => ?_)
              refine takeL 0 111 (v := .pointer (some ⟨tc, 0, none⟩)) rfl rfl (by kernel_rfl) (by kernel_rfl) (by kernel_rfl) (by kernel_rfl) (fun _ _ _ h => h) (Or.inl ⟨by rfl, by (intro W hSw; have s1 := CE.out W hSw; go_simp)⟩) hHeld ?_
              simp only [List.setIfInBounds_toArray, List.set_cons_zero, List.set_cons_succ]
              refine takeL 2 113 (v := .pointer (some ⟨q, 0, none⟩)) rfl rfl (by kernel_rfl) (by kernel_rfl) (by kernel_rfl) (by kernel_rfl) (fun _ _ _ h => h) (Or.inl ⟨by rfl, by (intro W hSw; have s1 := CE.out W hSw; go_simp)⟩) hHeld ?_
              simp only [List.setIfInBounds_toArray, List.set_cons_zero, List.set_cons_succ]
              refine takeL 3 114 (v := .pointer (some ⟨q, 0, none⟩)) rfl rfl (by kernel_rfl) (by kernel_rfl) (by kernel_rfl) (by kernel_rfl) (fun _ _ _ h => h) (Or.inl ⟨by rfl, by (intro W hSw; have s1 := CE.out W hSw; go_simp)⟩) hHeld ?_
              simp only [List.setIfInBounds_toArray, List.set_cons_zero, List.set_cons_succ]
              refine takeL 4 115 (v := .pointer (some ⟨q, 0, none⟩)) rfl rfl (by kernel_rfl) (by kernel_rfl) (by kernel_rfl) (by kernel_rfl) (fun _ _ _ h => h) (Or.inl ⟨by rfl, by (intro W hSw; have s1 := CE.out W hSw; go_simp)⟩) hHeld ?_
              simp only [List.setIfInBounds_toArray, List.set_cons_zero, List.set_cons_succ]
              refine takeL 5 116 (v := .slice ua i uc) rfl rfl (by kernel_rfl) (by kernel_rfl) (by kernel_rfl) (by kernel_rfl) (fun _ _ _ h => h) (Or.inl ⟨by rfl, by (intro W hSw; have s1 := CE.out W hSw; go_simp)⟩) hHeld ?_
              simp only [List.setIfInBounds_toArray, List.set_cons_zero, List.set_cons_succ]
              refine anyL_one 1 (by kernel_rfl) (upL rfl (fun K hK => ?_))
              go_simp
              refine (hRg _ hHeld).mono ?_
              rintro e w6 ⟨v6, rfl, row6, h6⟩
              have hb6 := below2 hHeld h6
              have HR6 := (show Hid _ from row6)
              clear row6 h6 hRg
              go_simp
              refine hK.out _ _ (fun _ => hb6) (fun hHeld0 => ?_)
              have hHeld := hHeld0 (by decide)
              clear hHeld0 hK K
              (try simp only [Act.put, List.setIfInBounds_toArray, List.set_cons_zero, List.set_cons_succ])
              refine anyL_one 6 (by kernel_rfl) (upL rfl (fun K hK => ?_))
              go_simp
              refine (same_any HR6.out (HR9.out.below' hHeld) (by have := HN.out; omega)).mono ?_
              rintro e w7 ⟨rfl, h7⟩
              have hb7 := below2 hHeld h7
              clear h7
              go_simp
              refine hK.out _ _ (fun _ => hb7) (fun hHeld0 => ?_)
              have hHeld := hHeld0 (by decide)
              clear hHeld0 hK K
              (try simp only [Act.put, List.setIfInBounds_toArray, List.set_cons_zero, List.set_cons_succ])
              refine anyL_one 7 (by kernel_rfl) (upL rfl (fun K hK => ?_))
              go_simp
              refine hK.out _ _ (fun _ => hHeld) (fun hHeld0 => ?_)
              have hHeld := hHeld0 (by decide)
              clear hHeld0 hK K
              (try simp only [Act.put, List.setIfInBounds_toArray, List.set_cons_zero, List.set_cons_succ])
              refine takeL 8 119 (v := .pointer (some ⟨tc, 0, none⟩)) rfl rfl (by kernel_rfl) (by kernel_rfl) (by kernel_rfl) (by kernel_rfl) (fun _ _ _ h => h) (Or.inl ⟨by rfl, by (intro W hSw; have s1 := CE.out W hSw; go_simp)⟩) hHeld ?_
              simp only [List.setIfInBounds_toArray, List.set_cons_zero, List.set_cons_succ]
              refine takeL 10 121 (v := .pointer (some ⟨q, 0, none⟩)) rfl rfl (by kernel_rfl) (by kernel_rfl) (by kernel_rfl) (by kernel_rfl) (fun _ _ _ h => h) (Or.inl ⟨by rfl, by (intro W hSw; have s1 := CE.out W hSw; go_simp)⟩) hHeld ?_
              simp only [List.setIfInBounds_toArray, List.set_cons_zero, List.set_cons_succ]
              refine takeL 11 122 (v := .pointer (some ⟨q, 0, none⟩)) rfl rfl (by kernel_rfl) (by kernel_rfl) (by kernel_rfl) (by kernel_rfl) (fun _ _ _ h => h) (Or.inl ⟨by rfl, by (intro W hSw; have s1 := CE.out W hSw; go_simp)⟩) hHeld ?_
              simp only [List.setIfInBounds_toArray, List.set_cons_zero, List.set_cons_succ]
              refine takeL 12 123 (v := .pointer (some ⟨q, 0, none⟩)) rfl rfl (by kernel_rfl) (by kernel_rfl) (by kernel_rfl) (by kernel_rfl) (fun _ _ _ h => h) (Or.inl ⟨by rfl, by (intro W hSw; have s1 := CE.out W hSw; go_simp)⟩) hHeld ?_
              simp only [List.setIfInBounds_toArray, List.set_cons_zero, List.set_cons_succ]
              refine takeL 13 124 (v := .slice ua i uc) rfl rfl (by kernel_rfl) (by kernel_rfl) (by kernel_rfl) (by kernel_rfl) (fun _ _ _ h => h) (Or.inl ⟨by rfl, by (intro W hSw; have s1 := CE.out W hSw; go_simp)⟩) hHeld ?_
              simp only [List.setIfInBounds_toArray, List.set_cons_zero, List.set_cons_succ]
              refine takeL 14 125 (v := .int .i64 (i : Int)) rfl rfl (by kernel_rfl) (by kernel_rfl) (by kernel_rfl) (by kernel_rfl) (fun _ _ _ h => h) (Or.inl ⟨by rfl, by (intro W hSw; have s1 := CE.out W hSw; go_simp)⟩) hHeld ?_
              simp only [List.setIfInBounds_toArray, List.set_cons_zero, List.set_cons_succ]
              refine anyL_one 9 (by kernel_rfl) (upL rfl (fun K hK => ?_))
              go_simp
              refine (hLn _ hHeld).mono ?_
              rintro e w8 ⟨rfl, h8⟩
              rw [h8]
              clear h8 w8 hLn
              go_simp
              refine hK.out _ _ (fun _ => hHeld) (fun hHeld0 => ?_)
              have hHeld := hHeld0 (by decide)
              clear hHeld0 hK K
              (try simp only [Act.put, List.setIfInBounds_toArray, List.set_cons_zero, List.set_cons_succ])
              refine anyL_one 15 (by kernel_rfl) (upL rfl (fun K hK => ?_))
              go_simp
              refine hK.out _ _ (fun _ => hHeld) (fun hHeld0 => ?_)
              have hHeld := hHeld0 (by decide)
              clear hHeld0 hK K
              (try simp only [Act.put, List.setIfInBounds_toArray, List.set_cons_zero, List.set_cons_succ])
              refine anyL_one 16 (by kernel_rfl) (upL rfl (fun K hK => ?_))
              go_simp
              refine hK.out _ _ (fun _ => hHeld) (fun hHeld0 => ?_)
              have hHeld := hHeld0 (by decide)
              clear hHeld0 hK K
              (try simp only [Act.put, List.setIfInBounds_toArray, List.set_cons_zero, List.set_cons_succ])
              refine anyL_one 17 (by kernel_rfl) (upL rfl (fun K hK => ?_))
              go_simp
              refine hK.out _ _ (fun _ => hHeld) (fun hHeld0 => ?_)
              have hHeld := hHeld0 (by decide)
              clear hHeld0 hK K
              (try simp only [Act.put, List.setIfInBounds_toArray, List.set_cons_zero, List.set_cons_succ])
              refine anyL_one 18 (by kernel_rfl) (upL rfl (fun K hK => ?_))
              go_simp
              refine (wakes_any _).mono ?_
              rintro e w8 ⟨rfl, h8⟩
              have hb8 := below2 hHeld h8
              clear h8
              go_simp
              refine hK.out _ _ (fun _ => hb8) (fun hHeld0 => ?_)
              have hHeld := hHeld0 (by decide)
              clear hHeld0 hK K
              (try simp only [Act.put, List.setIfInBounds_toArray, List.set_cons_zero, List.set_cons_succ])
              refine anyL_one 19 (by kernel_rfl) (upL rfl (fun K hK => ?_))
              go_simp
              refine hK.out _ _ (fun _ => hHeld) (fun hHeld0 => ?_)
              have hHeld := hHeld0 (by decide)
              clear hHeld0 hK K
              (try simp only [Act.put, List.setIfInBounds_toArray, List.set_cons_zero, List.set_cons_succ])
              refine anyL_one 20 (by kernel_rfl) (upL rfl (fun K hK => ?_))
              go_simp
              refine hK.out _ _ (fun q => absurd rfl q) (fun _ => ?_)
              clear hK K
              (try simp only [Act.put, List.setIfInBounds_toArray, List.set_cons_zero, List.set_cons_succ])
              refine anyL_done (by kernel_rfl) ?_ _
              go_wp2_with fail
              go_ret
              exact ⟨rfl, (HB9.out.below hHeld).bel⟩

set_option maxRecDepth 100000 in
theorem treeCopies_on (v0 v1 : Value) (W : World) {H : Type} {enc : TypeId × Value → H} {base : Nat} {d0 d1 : DataW H} {p0 p1 : List MemPlace} (hv0 : Value.okWide Try.prog W .any base 22 v0) (h0 : DataW.Trod enc Try.prog W 0 (fun _ => true) true 22 v0 d0 p0)
    (hv1 : Value.okWide Try.prog W .any base 22 v1) (h1 : DataW.Trod enc Try.prog W 0 (fun _ => true) true 22 v1 d1 p1) :
    Calls Try.prog 6 #[v0, v1] W fun e w' => e = .returned (.bool true) ∧ Below W.heap.size W w' := by
  obtain ⟨a, L, cap, rfl, hL, hc, hm, _⟩ := open_steps hv0 h0
  obtain ⟨a1, L1, cap1, rfl, hL1, hc1, hm1, _⟩ := open_steps hv1 h1
  exact copies_on a L cap a1 L1 cap1 W hL (Nat.le_trans hc hm) hL1 (Nat.le_trans hc1 hm1)

end Go.Proofs.Ytkfoddblgdmabaa.tr

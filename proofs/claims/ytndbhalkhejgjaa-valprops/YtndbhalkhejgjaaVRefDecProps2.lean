/- The contract of the document's DecodeProps: the loop. -/
import Derived.Test.YtndbhalkhejgjaaVRefDecProps
namespace Go.Proofs.Ytndbhalkhejgjaa
open Go.RowKit
attribute [local go_sem ↓] Go.wp_at_zero Go.wp_at_succ

theorem sl_put3 {W wr w2 : World} {a : Option Addr} {cap H : Nat} {A : List Pr} (hsl : Sl w2 a A) (hat : DecRow W wr (.slice a A.length cap) A) (hH : H < W.heap.size) (x y z : Value) :
    Sl (((w2.setCell ⟨H, 0, none⟩ x).setCell ⟨H, 1, none⟩ y).setCell ⟨H, 2, none⟩ z) a A := by
  rcases hsl with h | ⟨b, off, rfl, hb, hr⟩
  · exact Or.inl h
  · have hne : b ≠ H := by have := (hat.own.lt b rfl).1; omega
    refine Or.inr ⟨b, off, rfl, by simpa using hb, ?_⟩
    intro i p hp
    obtain ⟨e0, e1, e2, e3⟩ := hr i p hp
    exact ⟨(set3_cell hne).trans e0, (set3_cell hne).trans e1, (set3_cell hne).trans e2, (set3_cell hne).trans e3⟩

set_option maxHeartbeats 4000000 in
set_option maxRecDepth 100000 in
theorem refDecodeProps_yes (s : ByteArray) (P N j : Nat) (w : World) (hs : s.size ≤ 281474976710656) (hg : getAt s.data.toList (P : Int) = (N, j, true)) (hN : N ≤ 8) (hj : P + j ≤ s.size) :
    Calls Try.prog 27 #[.string s, .int .i64 (P : Int)] w fun e w' => GotA w w' e (decE P (decGo s N (P + j))) := by
  obtain ⟨i0, hi, hz0, hz1, hz2⟩ := info_parts Try.info62
  have cG := fun w => refGet_any s (P : Int) w hs
  rw [hg] at cG
  simp only [gotA] at cG
  have hn : ¬ (8 : Int) < (N : Int) := by omega
  have HD : Hid (decAt s [] N (P + j) = decGo s N (P + j)) := by simp [decAt, Hid]
  have HFit : Hid (∀ l e, decGo s N (P + j) = some (l, e) → ∀ p ∈ l, Fit p) := fun l e h => (decGo_in s N (P + j) l e h hj).2.2.2
  generalize decGo s N (P + j) = D at *
  have hsum : IntKind.i64.wrap ((P : Int) + (j : Int)) = (P : Int) + (j : Int) := by rw [IntKind.wrap_i64]; omega
  have hcv : IntKind.i64.wrap (N : Int) = (N : Int) := by rw [IntKind.wrap_i64]; omega
  clear hg
  go_enter Try.func27, Try.ntmps27
  go_wp2_with fail
  refine (cG _).mono ?_
  rintro e w1 ⟨rfl, hb1⟩
  clear cG
  have hR1 : R3 w1 w.heap.size (.slice none 0 0) (.int .i64 0) (.bool false) := (R3.new w _ _ _ _ rfl).kept hb1 (by simp)
  have hz : w.heap.size < w1.heap.size := by have := hb1.size; simp at this; omega
  obtain ⟨W, hW⟩ : ∃ W, W = w1.alloc (.cells #[.int .u64 (N : Int), .int .i64 (j : Int), .bool true] 96) := ⟨_, rfl⟩
  have hRW : R3 W w.heap.size (.slice none 0 0) (.int .i64 0) (.bool false) := by rw [hW]; exact hR1.kept (below_alloc1 w1 _) hz
  have hGW : R3 W w1.heap.size (.int .u64 (N : Int)) (.int .i64 (j : Int)) (.bool true) := by rw [hW]; exact R3.new w1 _ _ _ _ rfl
  have hroot : Below w.heap.size w W := by rw [hW]; exact below3 (below_alloc1 w _) hb1 (below_alloc1 w1 _)
  have hzW : w1.heap.size < W.heap.size := by rw [hW]; simp
  have hzw : w.heap.size < W.heap.size := by omega
  clear hb1 hR1 hz
  go_wp2_with fail
  rw [← hW]
  clear hn hW
  go_loopw [6, 7, 8] (fun sl sk sc wr => ∃ (z : Nat) (A : List Pr), A.length ≤ N ∧ sc = .int .i64 (A.length : Int) ∧ sk = .int .i64 ((P : Int) + (z : Int)) ∧ P + z ≤ s.size ∧ DecRow W wr sl A ∧ Hid (decAt s A (N - A.length) (P + z) = D)) (fun _ _ sc _ => N - (intOf sc).toNat)
  case atStart => exact ⟨j, [], Nat.zero_le _, rfl, rfl, hj, ⟨World.ownsRow_nil _ _ _ _, Below.refl _ _⟩, HD⟩
  case round =>
    obtain ⟨z, A, hk, rfl, rfl, hz, hat, HR⟩ := hrel
    obtain ⟨a, cap, hv, hsl⟩ := owns_sl hat.own
    subst hv
    clear HD
    obtain ⟨g0, g1, g2, -, -, -⟩ := hGW.kept hat.root hzW
    have hRr := hRW.kept hat.root hzw
    have yw : w.heap.size < wr.heap.size := by have := hat.root.size; omega
    have y1 : w1.heap.size < wr.heap.size := by have := hat.root.size; omega
    have hbw := hroot.trans (hat.root.mono (by omega))
    by_cases hlt : A.length < N
    · have cT := fun w => refGetText_any s ((P + z : Nat) : Int) 16 w hs (by omega)
      have hin := text_in s.data.toList ((P + z : Nat) : Int) 16
      have hl : s.data.toList.length = s.size := by simp
      have hdin := decP_in s (P + z)
      obtain ⟨r, hr⟩ : ∃ r, N - A.length = r + 1 := ⟨N - A.length - 1, by omega⟩
      have hr' : N - (A.length + 1) = r := by omega
      have hno : (decP s (P + z)).2.2 = false → Hid (D = none) := fun h => by rw [← HR.out, hr]; exact decAt_no s A r _ h
      have hyes : (decP s (P + z)).2.2 = true → Hid (decAt s (A ++ [(decP s (P + z)).1]) r (P + z + (decP s (P + z)).2.1) = D) := fun h => by rw [← HR.out, hr]; exact (decAt_yes s A r _ h).symm
      clear HR hr
      unfold decP at hno hyes hdin
      generalize getTextAt s.data.toList ((P + z : Nat) : Int) 16 = t at *
      obtain ⟨tx, tn, tok⟩ := t
      simp only at *
      cases tok with
      | false =>
        have HF := hno (by simp)
        clear hno hyes hdin hin hl
        rw [show ((P + z : Nat) : Int) = (P : Int) + (z : Int) by omega] at cT
        generalize ba tx = T at *
        go_wp2_with fail
        refine (cT _).mono ?_
        rintro e w2 ⟨rfl, hb2⟩
        have z2 : w.heap.size < w2.heap.size := by have := hb2.size; omega
        obtain ⟨r0, r1, r2, f0, f1, f2⟩ := hRr.kept hb2 yw
        go_wp2_with fail
        refine bodyPost_ret (v := .agg #[.slice none 0 0, .int .i64 0, .bool false]) (by simp [results, Try.results27, go_sem, z2, r0, r1, r2]) rfl ?_
        rw [HF.out]
        exact GotA.no (below_put3a (below2 hbw hb2) _ _ _ _)
      | true =>
        obtain ⟨_, h1, h2, _⟩ := hin rfl
        rw [hl] at h2
        have h3 : P + z + tn ≤ s.size := by omega
        simp only [if_true] at hno hyes hdin
        have cV := fun w => refDecode_any s ((P + z + tn : Nat) : Int) w hs
        clear hin hl h2
        generalize decV s ((P + z + tn : Nat) : Int) = d at *
        obtain ⟨⟨dk, dn, ds⟩, dz, dok⟩ := d
        simp only [gotG] at *
        rw [show ((P + z : Nat) : Int) = (P : Int) + (z : Int) by omega] at cT
        rw [show ((P + z + tn : Nat) : Int) = (P : Int) + (z : Int) + (tn : Int) by omega] at cV
        have ha : IntKind.i64.wrap ((P : Int) + (z : Int) + (tn : Int)) = (P : Int) + (z : Int) + (tn : Int) := by rw [IntKind.wrap_i64]; omega
        cases dok with
        | false =>
          have HF := hno rfl
          clear hno hyes hdin
          generalize ba tx = T at *
          go_wp2_with fail
          refine (cT _).mono ?_
          rintro e w2 ⟨rfl, hb2⟩
          have z2 : w.heap.size < w2.heap.size := by have := hb2.size; omega
          have hR2 := hRr.kept hb2 yw
          go_wp2_with fail
          refine (cV _).mono ?_
          rintro e w3 ⟨rfl, hb3⟩
          have hb3' := below2 (below_alloc1 w2 _) hb3
          have z3 : w.heap.size < w3.heap.size := by have := hb3'.size; omega
          obtain ⟨r0, r1, r2, f0, f1, f2⟩ := hR2.kept hb3' z2
          go_wp2_with fail
          refine bodyPost_ret (v := .agg #[.slice none 0 0, .int .i64 0, .bool false]) (by simp [results, Try.results27, go_sem, z3, r0, r1, r2]) rfl ?_
          rw [HF.out]
          exact GotA.no (below_put3a (below3 hbw hb2 hb3') _ _ _ _)
        | true =>
          have HF := hyes rfl
          obtain ⟨d1, d2, _⟩ := hdin rfl
          clear hno hyes hdin
          have hb' : IntKind.i64.wrap ((tn : Int) + (dz : Int)) = (tn : Int) + (dz : Int) := by rw [IntKind.wrap_i64]; omega
          have hc' : IntKind.i64.wrap ((P : Int) + (z : Int) + ((tn : Int) + (dz : Int))) = (P : Int) + (z : Int) + ((tn : Int) + (dz : Int)) := by rw [IntKind.wrap_i64]; omega
          generalize ba tx = T at *
          go_wp2_with fail
          refine (cT _).mono ?_
          rintro e w2 ⟨rfl, hb2⟩
          go_wp2_with fail
          refine (cV _).mono ?_
          rintro e w3 ⟨rfl, hb3⟩
          obtain ⟨n0, n1, n2, -, -, -⟩ := (R3.new w2 (.string T) (.int .i64 (tn : Int)) (.bool true) 83 rfl).kept hb3 (by simp)
          have z23 : w2.heap.size < w3.heap.size := by have := hb3.size; simp at this; omega
          have hb3' := below2 (below_alloc1 w2 _) hb3
          have hat3 := (hat.below hb2).below hb3'
          have hat4 := (hat3.alloc (.cells #[.int .i64 dk, .int .i64 dn, .string ds, .int .i64 (dz : Int), .bool true] 32)).alloc (.cells #[.string T, .int .i64 dk, .int .i64 dn, .string ds] 62)
          have hA8 : A.length ≤ 8 := by omega
          have hown2 : ∀ b, (Value.slice a A.length cap).ownBlock = some b → b < w2.heap.size := fun b h => by have := (hat.own.lt b h).2; have := hb2.size; omega
          go_wp2_with (at_builtin; refine wpList_append_own _ rfl (.tmp 51) (.tmp 57) 37 rfl W.heap.size 62 i0 (.agg #[.string ⟨#[]⟩, .int .i64 0, .int .i64 0, .string ⟨#[]⟩]) 4 48 Try.underlying37 hi hz0 hz1 hz2 rfl (by decide) _ A.length (cellsL A) rfl hat4.own ⟨w3.heap.size + 1, 0, none⟩ 1 1 (Pr.cells ⟨T, ⟨dk, dn, ds⟩⟩) rfl rfl (new4' (p := ⟨T, ⟨dk, dn, ds⟩⟩) (by simp)) (cells_one _) (by unfold maxLen; omega) (by omega) hat4.root.size ?_; intro v5 w5 hown5 hgrow5 hnil5; have m1 := (grown_cell (b := w2.heap.size) (j := 1) hgrow5 (by simp; omega) (fun h => by have := hown2 _ h; omega)).trans (((alloc_cell (by simp; omega)).trans (alloc_cell z23)).trans n1); have m2 := (grown_cell (b := w3.heap.size) (j := 3) hgrow5 (by simp; omega) (fun h => by have := hown2 _ h; omega)).trans ((alloc_cell (by simp)).trans (show (w3.alloc (.cells #[.int .i64 dk, .int .i64 dn, .string ds, .int .i64 (dz : Int), .bool true] 32)).cell? ⟨w3.heap.size, 3, none⟩ = some (.int .i64 (dz : Int)) by simp)))
          go_roundw
          case rel => exact ⟨z + (tn + dz), A ++ [⟨T, ⟨dk, dn, ds⟩⟩], by simp; omega, by rw [List.length_append]; go_num, by go_num, by omega, hat4.push hgrow5 hown5, by rw [List.length_append, List.length_singleton, hr', ← Nat.add_assoc]; exact HF⟩
          case measure => simp [intOf]; omega
    · have HF : Hid (D = some (A, P + z)) := by rw [← HR.out, show N - A.length = 0 by omega]; exact decAt_end s A _
      have hfit : ∀ p ∈ A, smallP p := fun p hp => (HFit.out A (P + z) HF.out p hp).small
      clear HR
      have cP := fun w h => refProps_any A a cap w h hfit
      have hsub : IntKind.i64.wrap ((P : Int) + (z : Int) - (P : Int)) = (z : Int) := by rw [IntKind.wrap_i64]; omega
      cases hp : propsB A with
      | false =>
        rw [hp] at cP
        go_wp2_with fail
        refine (cP _ hsl).mono ?_
        rintro e w2 ⟨rfl, hb2⟩
        have z2 : w.heap.size < w2.heap.size := by have := hb2.size; omega
        obtain ⟨r0, r1, r2, f0, f1, f2⟩ := hRr.kept hb2 yw
        go_wp2_with fail
        refine bodyPost_ret (v := .agg #[.slice none 0 0, .int .i64 0, .bool false]) (by simp [results, Try.results27, go_sem, r0, r1, r2]) rfl ?_
        rw [HF.out]
        simp only [decE, hp]
        exact GotA.no (below_put3 (below2 hbw hb2) _ _ _)
      | true =>
        rw [hp] at cP
        go_wp2_with fail
        refine (cP _ hsl).mono ?_
        rintro e w2 ⟨rfl, hb2⟩
        have z2 : w.heap.size < w2.heap.size := by have := hb2.size; omega
        obtain ⟨r0, r1, r2, f0, f1, f2⟩ := hRr.kept hb2 yw
        go_wp2_with fail
        refine bodyPost_ret (v := .agg #[.slice a A.length cap, .int .i64 (z : Int), .bool true]) (by simp [results, Try.results27, go_sem, r0, r1, r2]) rfl ?_
        rw [HF.out]
        simp only [decE, hp, if_true]
        rw [show P + z - P = z by omega]
        refine ⟨a, cap, rfl, ?_, below_put3 (below2 hbw hb2) _ _ _⟩
        exact sl_put3 (hsl.kept hb2) hat hzw _ _ _

theorem refDecodeProps_any (s : ByteArray) (p : Int) (w : World) (hs : s.size ≤ 281474976710656) :
    Calls Try.prog 27 #[.string s, .int .i64 p] w fun e w' => GotA w w' e (decL s p) := by
  have hl : s.data.toList.length = s.size := by simp
  unfold decL
  by_cases h : (getAt s.data.toList p).2.2 = true ∧ (getAt s.data.toList p).1 ≤ 8
  · rw [if_pos h]
    obtain ⟨h0, h1, h2, h3⟩ := getAt_in _ _ h.1
    obtain ⟨P, rfl⟩ := Int.eq_ofNat_of_zero_le h0
    rw [Int.toNat_natCast] at *
    refine refDecodeProps_yes s P _ _ w hs ?_ h.2 (by omega)
    rw [← h.1]
  · rw [if_neg h]
    exact refDecodeProps_no s p w hs h

end Go.Proofs.Ytndbhalkhejgjaa

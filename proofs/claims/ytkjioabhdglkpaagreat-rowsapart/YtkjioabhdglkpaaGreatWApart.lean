/- RowsApart: the walk. -/
import Derived.Test.YtkjioabhdglkpaaGreatWArgs
namespace Go.Proofs.YtkjioabhdglkpaaGreat
open Go.RowKit Go.ChangeShapes Go.WideShapes Go.ChangeAt

set_option maxHeartbeats 6400000 in
set_option maxRecDepth 100000 in
theorem rowsApart_on (text : ByteArray) (a0 : Option Addr) (L : List Wp1) (cap : Nat) (W : World) (hL : SlG W a0 3 Wp1.cells L) (hcap : L.length ≤ maxLen) (hok : ∀ s ∈ L, s.ok) :
    Calls Tryz.prog 5 #[.string text, .slice a0 L.length cap] W fun e w' => e = .returned (.bool true) ∧ Below W.heap.size W w' := by
  have cM := made9_any 120 3 (by decide) (by decide) W
  have HL := (show Hid _ from hL)
  have HK := (show Hid _ from hok)
  clear hok
  go_enter Tryz.func5, Tryz.ntmps5
  go_wp2_with fail
  refine cM.mono ?_
  rintro e w1 ⟨g, p, hb, rb, rfl, r1⟩
  have HR := (show Hid _ from r1)
  have cF := fair9_any a0 L cap w1 (hL.kept r1.bel) hcap
  clear cM r1
  go_wp2_with fail
  refine cF.mono ?_
  rintro e w2 ⟨rfl, hw⟩
  rw [hw]
  clear hw cF hL
  cases hfr : fair9 L
  · have cW := wakes9_any w1
    go_wp2_with fail
    refine cW.mono ?_
    rintro e w3 ⟨rfl, b3⟩
    clear cW
    go_wp2_with fail
    go_ret
    exact ⟨rfl, below2 HR.out.bel b3⟩
  by_cases ht : 4000 < text.size
  · have ht2 : decide ((4000 : Int) < (text.size : Int)) = true := by simp; omega
    have cW := wakes9_any w1
    go_wp2_with fail
    refine cW.mono ?_
    rintro e w3 ⟨rfl, b3⟩
    clear cW
    go_wp2_with fail
    go_ret
    exact ⟨rfl, below2 HR.out.bel b3⟩
  have ht2 : decide ((4000 : Int) < (text.size : Int)) = false := by simp; omega
  have HF := (show Hid _ from fair9_of hfr)
  have cP := roput_new HR.out (by omega) (by decide) (by decide) (by simp) (id := 5) (by decide) (text := text) (by omega) (by simp [idsR])
  have HT : Hid (text.size ≤ 4000) := by show text.size ≤ 4000; omega
  clear hfr ht
  go_wp2_with fail
  refine cP.mono ?_
  rintro e w3 ⟨X, rfl, q⟩
  obtain ⟨hX, ks, ok1, r3⟩ := q.room (by have := HT.out; simp [pieN]; unfold cntN; omega)
  rw [hX]
  clear hX q cP ht2
  have r3' : Rz W w3 rb hb p g (3 * 120 + 6 + 12 * (6 * 120 + 10) + 216) 120 3 [⟨5, text, ks⟩] (fun _ => False) := r3.rz
  have HR3 := (show Hid _ from r3')
  clear r3 r3' ok1 HR
  have hlen2 : L.length ≤ 60 := HF.out.1
  go_wp2_with fail
  go_loopw [9] (fun si wr => ∃ (i : Nat) (rs : List Ro), i ≤ L.length ∧ si = .int .i64 (i : Int) ∧ Hid (rs.length ≤ i + 1 ∧ (∃ ks, (⟨5, text, ks⟩ : Ro) ∈ rs) ∧ Rz W wr rb hb p g (9342 + 9012 * i) 120 3 rs (fun _ => False))) (fun si _ => L.length - (Go.RowKit.intOf si).toNat)
  case atStart => exact ⟨0, _, Nat.zero_le _, rfl, by simp, ⟨ks, by simp⟩, HR3.out⟩
  case round =>
    obtain ⟨i, rs, hi, rfl, hr⟩ := hrel
    by_cases hlt : i < L.length
    · have hlt2 : (i : Int) < (L.length : Int) := by omega
      have hx : L[i]? = some L[i] := by simp [hlt]
      generalize L[i] = s at hx
      have hok := HK.out s (List.mem_of_getElem? hx)
      have hiB := hok.iB
      obtain ⟨ks2, hin⟩ := hr.out.2.1
      rcases HL.out with hL2 | ⟨b, off, rfl, hlb, hcell⟩
      · rw [hL2] at hlt; simp at hlt
      have S0 : Hid (W.cell? ⟨b, off + i * 3, none⟩ = some (.int .i64 s.kind)) := hcell i s hx 0 _ rfl
      have S1 : Hid (W.cell? ⟨b, off + i * 3 + 1, none⟩ = some (.int .i64 s.id)) := hcell i s hx 1 _ rfl
      have S2 : Hid (W.cell? ⟨b, off + i * 3 + 2, none⟩ = some (.string s.text)) := hcell i s hx 2 _ rfl
      have s0 := (hr.out.2.2.bel.cell (p := ⟨b, _, none⟩) hlb).trans S0.out
      have s1 := (hr.out.2.2.bel.cell (p := ⟨b, _, none⟩) hlb).trans S1.out
      have s2 := (hr.out.2.2.bel.cell (p := ⟨b, _, none⟩) hlb).trans S2.out
      clear hcell hx hok S0
      obtain ⟨kk, id, tx⟩ := s
      simp only at s0 s1 s2 S1 S2 hiB
      have HI := (show Hid _ from hin)
      clear hin
      by_cases h5 : id = 5
      · subst h5
        go_wp2_with fail
        go_roundw
        case rel => exact ⟨i + 1, rs, by omega, by go_num, by have := hr.out.1; omega, ⟨ks2, HI.out⟩, hr.out.2.2.mono (by omega)⟩
        case measure => simp [Go.RowKit.intOf]; omega
      have e5 : (id == 5) = false := by simpa using h5
      by_cases k1 : kk = 1
      · subst k1
        have cD := rodel_at hr.out.2.2 (by omega) (by decide) hiB
        clear s2
        go_wp2_with fail
        refine cD.mono ?_
        rintro e w4 ⟨X, rs', rfl, r4, q⟩
        have hin' := q.kept HI.out (by simp only; omega)
        have HQ : Hid (rs'.length ≤ i + 2 ∧ (⟨5, text, ks2⟩ : Ro) ∈ rs') := ⟨by have := q.len; have := hr.out.1; omega, hin'⟩
        have cG := r4.rz.get (by omega) (by decide) hin'
        simp only at cG
        clear cD r4 q hin' s0 s1
        go_wp2_with fail
        refine cG.mono ?_
        rintro e w5 ⟨rfl, r5⟩
        have R5 := (show Hid _ from r5.rz)
        clear cG r5
        go_wp2_with fail
        go_roundw
        case rel => exact ⟨i + 1, rs', by omega, by go_num, HQ.out.1, ⟨ks2, HQ.out.2⟩, R5.out.mono (by omega)⟩
        case measure => simp [Go.RowKit.intOf]; omega
      · have e1 : (kk == 1) = false := by simpa using k1
        have cP := roput_at (i := id) (text := tx) hr.out.2.2.drew (by omega) (by decide) (by decide) (by have := hr.out.1; omega)
        have HP := (show Hid _ from hr.out.2.2.rise)
        clear k1
        go_wp2_with fail
        apply wp_endX (R := fun X U => ∃ rs', Rz W U rb hb p g (9342 + 9012 * i + 12 * (6 * 120 + 10) + 216) 120 3 rs' (fun _ => False) ∧ PutR 120 rs id tx X rs')
        case h =>
          go_region_held3 (fun U => U.cell? ⟨b, off + i * 3 + 1, none⟩ = some (.int .i64 id) ∧ U.cell? ⟨b, off + i * 3 + 2, none⟩ = some (.string tx)) (first | exact hB | exact ⟨s1, s2⟩ | go_keep)
            (first
              | (go_at_call 12; refine cP.mono ?_; rintro e w4 ⟨X, rs', rfl, r4, q⟩; have hB := (⟨(r4.rz.bel.cell (p := ⟨b, _, none⟩) hlb).trans S1.out, (r4.rz.bel.cell (p := ⟨b, _, none⟩) hlb).trans S2.out⟩ : _ ∧ _)))
          all_goals exact EndX.mk (X := X) ⟨rs', r4.rz, q⟩
        rintro X w4 ⟨rs', r4, q⟩
        have hin' := q.kept HP.out HI.out (by simp only; omega)
        have HQ : Hid (rs'.length ≤ i + 2 ∧ (⟨5, text, ks2⟩ : Ro) ∈ rs') := ⟨by have := q.len; have := hr.out.1; omega, hin'⟩
        have cG := r4.get (by omega) (by decide) hin'
        simp only at cG
        clear cP r4 q hin' s0 s1 s2
        go_wp2_with fail
        refine cG.mono ?_
        rintro e w5 ⟨rfl, r5⟩
        have R5 := (show Hid _ from r5.rz)
        clear cG r5
        go_wp2_with fail
        go_roundw
        case rel => exact ⟨i + 1, rs', by omega, by go_num, HQ.out.1, ⟨ks2, HQ.out.2⟩, R5.out.mono (by omega)⟩
        case measure => simp [Go.RowKit.intOf]; omega
    · have hge : ¬ ((i : Int) < (L.length : Int)) := by omega
      have cW := wakes9_any wr
      have HB := (show Hid _ from hr.out.2.2.bel)
      clear hr
      go_wp2_with fail
      refine cW.mono ?_
      rintro e w3 ⟨rfl, b3⟩
      clear cW
      go_wp2_with fail
      go_ret
      exact ⟨rfl, below2 HB.out b3⟩
set_option maxRecDepth 100000 in
theorem rowsApart_any {H : Type} {enc : TypeId × Value → H} {base : Nat} {d : DataW H} {ps : List MemPlace} (text : ByteArray) (v : Value) (W : World) (_h0 : text.size ≤ maxLen) (hv : Value.okWide Tryz.prog W .any base 22 v) (h : DataW.Trod enc Tryz.prog W 0 (fun _ => true) true 22 v d ps) :
    Calls Tryz.prog 5 #[.string text, v] W fun e w' => e = .returned (.bool true) ∧ Below W.heap.size W w' := by
  obtain ⟨a, L, cap, rfl, hL, h1, h2, h3⟩ := open_steps9 hv h
  exact rowsApart_on text a L cap W hL (Nat.le_trans h1 h2) h3
end Go.Proofs.YtkjioabhdglkpaaGreat

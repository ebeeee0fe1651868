/- The document's pool: Pin at a page that is held, or that is none. -/
import Derived.Test.YtghocbaafdnddaaGreatRCopy
namespace Go.Proofs.YtghocbaafdnddaaGreat
open Go.RowKit

section
variable {B bd : Nat} {w : World} {y : RX}

set_option maxHeartbeats 1600000 in
set_option maxRecDepth 100000 in
theorem rpin_place (h : Rp B w y) (a : Int) (ha : ¬ (0 ≤ a ∧ a < (y.Q.n : Int))) :
    Calls Tryz.prog 10 #[.pointer (some ⟨y.q, 0, none⟩), .int .i64 a] w fun e w' => e = .returned (.tuple #[.string ⟨#[]⟩, .int .i64 40]) ∧ w' = w := by
  obtain ⟨c0, _⟩ := h.cell
  have cS := rsectors_any h.dev
  clear h
  by_cases h0 : a < 0
  · have d0 : decide (a < 0) = true := by simpa using h0
    clear ha h0
    go_enter Tryz.func10, Tryz.ntmps10
    go_wp2_with fail
    go_ret2
    exact ⟨rfl, rfl⟩
  · have d0 : decide (a < 0) = false := by simpa using h0
    have d1 : decide ((y.Q.n : Int) ≤ a) = true := by simp; omega
    clear ha h0
    go_enter Tryz.func10, Tryz.ntmps10
    go_wp2_with fail
    refine cS.mono ?_
    rintro e w1 ⟨rfl, e1⟩
    rw [e1]
    clear e1 cS
    go_wp2_with fail
    go_ret2
    exact ⟨rfl, rfl⟩

set_option maxHeartbeats 1600000 in
set_option maxRecDepth 100000 in
theorem rpin_held (h : Rp B w y) (hl : y.l.length ≤ 64) (hB : B ≤ w.heap.size) (j : Nat) (hj : j < y.Q.n) (i : Nat) (f : Fm) (hi : y.l[i]? = some f) (hx : idxI y.l (j : Int) = (i : Int)) (hp : f.pins ≤ 100000) :
    Calls Tryz.prog 10 #[.pointer (some ⟨y.q, 0, none⟩), .int .i64 (j : Int)] w fun e w' => e = .returned (.tuple #[.string f.s, .int .i64 0]) ∧ ∃ lv, RpTo B w y { y with lv := lv, l := y.l.eraseIdx i ++ [{ f with pins := f.pins + 1 }] } w' := by
  obtain ⟨c0, _⟩ := h.cell
  have cS := rsectors_any h.dev
  have cF := rfind_any h (by omega) (j : Int) (i : Int) hx
  have hlt : i < y.l.length := (List.getElem?_eq_some_iff.1 hi).1
  obtain ⟨z, hz⟩ : ∃ z, z + 1 = y.l.length := ⟨y.l.length - 1, by omega⟩
  have cU := used_any h hl hB i z f hi hz
  have d1 : decide ((y.Q.n : Int) ≤ (j : Int)) = false := by simp; omega
  have hzl : (y.l.eraseIdx i).length = z := by rw [List.length_eraseIdx_of_lt hlt]; omega
  have HZ : Hid ((y.l.eraseIdx i).length = z ∧ z + 1 = y.l.length) := ⟨hzl, hz⟩
  have hi' : (y.l.eraseIdx i ++ [f])[z]? = some f := by rw [← hzl]; simp
  have HI : Hid ((y.l.eraseIdx i ++ [f])[z]? = some f) := hi'
  have hw : (f.pins : Int) ≤ 100000 := by omega
  obtain ⟨p1, hp1⟩ : ∃ p1, f.pins + 1 = p1 := ⟨_, rfl⟩
  have hpe : (f.pins : Int) + 1 = (p1 : Int) := by omega
  have hpb : (p1 : Int) ≤ 100001 := by omega
  have HP : Hid (f.pins + 1 = p1) := hp1
  rw [hp1]
  clear hp1
  clear h hl hi hx hz hzl hi' hlt
  go_enter Tryz.func10, Tryz.ntmps10
  go_wp2_with fail
  refine cS.mono ?_
  rintro e w1 ⟨rfl, e1⟩
  rw [e1]
  clear e1 cS
  go_wp2_with fail
  refine cF.mono ?_
  rintro e w2 ⟨rfl, e2⟩
  rw [e2]
  clear e2 cF
  go_wp2_with fail
  refine cU.mono ?_
  rintro e w3 ⟨b, c, rfl, t3⟩
  clear cU
  have T3 : Hid (RpTo B w y _ w3) := t3
  obtain ⟨_, k1, k2, _, kf, ks⟩ := t3.pd.last (A := y.l.eraseIdx i) (f := f) (z := z) (n := y.l.length) rfl HZ.out.1 (by rw [List.length_append, HZ.out.1]; exact HZ.out.2) rfl
  have hfz := kf (z * 4 + 1)
  have T4 : Hid (RpTo B w3 _ _ (w3.setCell ⟨b, z * 4 + 1, none⟩ (.int .i64 (p1 : Int)))) := ks 1 (.int .i64 (p1 : Int)) { f with pins := p1 } (by decide) rfl
  clear t3 ks kf
  go_wp2_with fail
  go_ret2
  exact ⟨rfl, _, T3.out.trans T4.out⟩
end
end Go.Proofs.YtghocbaafdnddaaGreat

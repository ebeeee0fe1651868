/- load. -/
import Derived.Test.YtkjioabhdglkpaaGreatQLoad
namespace Go.Proofs.YtkjioabhdglkpaaGreat
open Go.RowKit

section
variable {B : Nat} {w : World} {x : PX}

theorem dev_read (bd : Nat) (D : DS) (hI : Inv bd D) (i : Nat) (hi : i < D.n) :
    (D.left = 0 → ∀ B w g gs hv, Dev B w g gs hv D → Calls Tryz.prog 146 #[.pointer (some ⟨g, 0, none⟩), .int .i64 (i : Int)] w fun e w' => e = .returned (.tuple #[.string ⟨#[]⟩, .int .i64 41]) ∧ Below w.heap.size w w') ∧
    (D.left ≠ 0 → ∀ B w g gs hv, Dev B w g gs hv D → Calls Tryz.prog 146 #[.pointer (some ⟨g, 0, none⟩), .int .i64 (i : Int)] w fun e w' => e = .returned (.tuple #[.string (D.seen i), .int .i64 0]) ∧ Below w.heap.size w w') := by
  obtain ⟨T, E, hc, c⟩ := read_one bd D hI (i : Int)
  rcases hc with ⟨hx, _⟩ | ⟨j, hj, _, hc⟩
  · exact absurd ⟨by omega, by omega⟩ hx
  · obtain rfl : i = j := by omega
    rcases hc with ⟨a, rfl, rfl⟩ | ⟨a, rfl, rfl⟩
    · exact ⟨fun _ => c, fun q => absurd a q⟩
    · exact ⟨fun q => absurd q a, fun _ => c⟩

set_option maxHeartbeats 1600000 in
set_option maxRecDepth 100000 in
theorem load_err (at_ E : Int) (hE : E ≠ 0) (K : PX → Prop) (c : Calls Tryz.prog 145 #[.pointer (some ⟨x.p, 0, none⟩)] w fun e w' => e = .returned (.tuple #[.pointer none, .int .i64 E]) ∧ ∃ x1, PTo B w x x1 w' ∧ K x1) :
    Calls Tryz.prog 112 #[.pointer (some ⟨x.p, 0, none⟩), .int .i64 at_] w fun e w' => e = .returned (.tuple #[.pointer none, .int .i64 E]) ∧ ∃ x1, PTo B w x x1 w' ∧ K x1 := by
  have he2 : (E == 0) = false := by simpa using hE
  clear hE
  go_enter Tryz.func112, Tryz.ntmps112
  go_wp2_with fail
  refine c.mono ?_
  rintro e w1 ⟨rfl, hx⟩
  have HX : Hid (∃ x1, PTo B w x x1 w1 ∧ K x1) := hx
  clear c hx
  go_wp2_with fail
  go_ret2
  exact ⟨rfl, HX.out⟩

set_option maxHeartbeats 1600000 in
set_option maxRecDepth 100000 in
theorem load_down (b i : Nat) (K : PX → Prop) (c : Calls Tryz.prog 145 #[.pointer (some ⟨x.p, 0, none⟩)] w fun e w' => e = .returned (.tuple #[.pointer (some ⟨b, 0, none⟩), .int .i64 0]) ∧ ∃ x1, PTo B w x x1 w' ∧ K x1)
    (D : DS) (bd : Nat) (hI : Inv bd D) (hi : i < D.n) (hl : D.left = 0) (hK : ∀ x1, K x1 → x1.O = [(b, Fm0)] ∧ x1.D = D) :
    Calls Tryz.prog 112 #[.pointer (some ⟨x.p, 0, none⟩), .int .i64 (i : Int)] w fun e w' => e = .returned (.tuple #[.pointer none, .int .i64 41]) ∧ ∃ x1, PTo B w x { x1 with O := [], F := x1.F ++ [b] } w' ∧ K x1 := by
  have cR := (dev_read bd D hI i hi).1 hl
  clear hI hi hl
  go_enter Tryz.func112, Tryz.ntmps112
  go_wp2_with fail
  refine c.mono ?_
  rintro e w1 ⟨rfl, x1, t1, k1⟩
  obtain ⟨hO, hD⟩ := hK x1 k1
  have hd := t1.pd.dev
  rw [hD] at hd
  have cR1 := cR B w1 x1.g x1.gs x1.dv hd
  obtain ⟨d0, _, _, _, _⟩ := t1.pd.cell
  have e1 := t1.p
  rw [e1] at d0
  have T1 : Hid (PTo B w x x1 w1) := t1
  have HO : Hid (x1.O = [(b, Fm0)]) := hO
  have K1 : Hid (K x1) := k1
  clear c cR hK k1 hO hD hd t1
  go_wp2_with fail
  refine cR1.mono ?_
  rintro e w2 ⟨rfl, hb2⟩
  have t2 := PTo.of_below T1.out.pd hb2
  have T2 : Hid (PTo B w1 x1 x1 w2) := t2
  obtain ⟨_, q1, _, _, _⟩ := t2.pd.cell
  rw [e1] at q1
  obtain ⟨cs, cr, kc⟩ := t2.pd.chan
  have hlen := t2.pd.len
  rw [HO.out] at hlen
  simp only [List.length_singleton] at hlen
  have t3 := fun s r => t2.pd.put (s := s) (r := r) HO.out
  have T3 : Hid (∀ s r, PTo B w2 x1 _ _) := t3
  clear t2 t3 cR1 e1
  go_upto_region 6 with fail
  refine OpsTo.region ?_
  show OpsTo _ _ _ [0, 1, 2, 3, 4, 5] _ _
  refine OpsTo.valS 28 (.pointer (some ⟨x.p, 0, none⟩)) rfl rfl rfl (by go_simp) ?_
  simp only [List.setIfInBounds_toArray, List.set_cons_zero, List.set_cons_succ]
  refine OpsTo.valS 29 (.pointer (some ⟨x.p, 0, none⟩)) rfl rfl rfl (by go_simp) ?_
  simp only [List.setIfInBounds_toArray, List.set_cons_zero, List.set_cons_succ]
  refine OpsTo.valS 30 (.pointer (some ⟨x.p, 1, none⟩)) rfl rfl rfl (by go_simp) ?_
  simp only [List.setIfInBounds_toArray, List.set_cons_zero, List.set_cons_succ]
  refine OpsTo.valS 31 (.chan (some x1.c)) rfl rfl rfl (by go_simp) ?_
  simp only [List.setIfInBounds_toArray, List.set_cons_zero, List.set_cons_succ]
  refine OpsTo.valS 32 (.pointer (some ⟨b, 0, none⟩)) rfl rfl rfl (by go_simp) ?_
  simp only [List.setIfInBounds_toArray, List.set_cons_zero, List.set_cons_succ]
  refine OpsTo.sendD x1.c (.pointer (some ⟨b, 0, none⟩)) rfl rfl rfl (by simp [execOp, Conc.scase, Act.eval]) kc (by simp; omega) ?_
  rw [List.push_toArray]
  refine OpsTo.done ?_
  simp only [Exit.then]
  go_wp2_with fail
  go_ret2
  exact ⟨rfl, x1, T1.out.trans (T2.out.trans (T3.out _ _)), K1.out⟩

set_option maxHeartbeats 1600000 in
set_option maxRecDepth 100000 in
theorem load_ok (b i : Nat) (K : PX → Prop) (c : Calls Tryz.prog 145 #[.pointer (some ⟨x.p, 0, none⟩)] w fun e w' => e = .returned (.tuple #[.pointer (some ⟨b, 0, none⟩), .int .i64 0]) ∧ ∃ x1, PTo B w x x1 w' ∧ K x1)
    (D : DS) (bd : Nat) (hI : Inv bd D) (hi : i < D.n) (hl : D.left ≠ 0) (hK : ∀ x1, K x1 → x1.O = [(b, Fm0)] ∧ x1.D = D ∧ x1.rd ≤ 100000000) :
    Calls Tryz.prog 112 #[.pointer (some ⟨x.p, 0, none⟩), .int .i64 (i : Int)] w fun e w' => e = .returned (.tuple #[.pointer (some ⟨b, 0, none⟩), .int .i64 0]) ∧ ∃ x1, PTo B w x { x1 with O := [(b, ⟨i, D.seen i, 0, false⟩)], rd := x1.rd + 1 } w' ∧ K x1 := by
  have cR := (dev_read bd D hI i hi).2 hl
  have hin := hI.n
  have hil : i ≤ 8192 := by omega
  clear hI hi hl hin
  go_enter Tryz.func112, Tryz.ntmps112
  go_wp2_with fail
  refine c.mono ?_
  rintro e w1 ⟨rfl, x1, t1, k1⟩
  obtain ⟨hO, hD, hrd⟩ := hK x1 k1
  have hd := t1.pd.dev
  rw [hD] at hd
  have cR1 := cR B w1 x1.g x1.gs x1.dv hd
  obtain ⟨d0, _, _, _, _⟩ := t1.pd.cell
  have e1 := t1.p
  rw [e1] at d0
  have T1 : Hid (PTo B w x x1 w1) := t1
  have HO : Hid (x1.O = [(b, Fm0)]) := hO
  have K1 : Hid (K x1) := k1
  clear c cR hK k1 hO hD hd t1
  go_wp2_with fail
  refine cR1.mono ?_
  rintro e w2 ⟨rfl, hb2⟩
  have t2 := PTo.of_below T1.out.pd hb2
  have t3 := t2.pd.setRd (x1.rd + 1)
  have E1 : Hid (x1.p = x.p) := e1
  have T23 : Hid (PTo B w1 x1 _ _) := t2.trans t3
  obtain ⟨_, _, _, q3, _⟩ := t2.pd.cell
  have z3 := t2.pd.free? 3
  have hfo := (t3.pd.fr (b, Fm0) (by show (b, Fm0) ∈ x1.L ++ x1.O; rw [HO.out]; simp)).1
  have FO : Hid ((w2.setCell ⟨x1.p, 3, none⟩ (.int .i64 ((x1.rd + 1 : Nat) : Int))).heap[b]? = some (fobj Fm0)) := hfo
  rw [e1] at q3 z3 hfo
  have e4 : (((x1.rd + 1 : Nat)) : Int) = (x1.rd : Int) + 1 := by omega
  rw [e4] at hfo
  obtain ⟨g0, g1, _, _⟩ := fobj_cell hfo
  have y0 := fobj_free hfo 0
  have y1 := fobj_free hfo 1
  clear t2 t3 cR1 e1 hfo e4
  go_wp2_with fail
  go_ret2
  have e4 : (((x1.rd + 1 : Nat)) : Int) = (x1.rd : Int) + 1 := by omega
  have t4 := T23.out.pd.setO (b := b) (f := Fm0) HO.out ((fr_set _ b 0 (.int .i64 (i : Int))).set (p := ⟨b, 1, none⟩) (Or.inl rfl) (.string (D.seen i))) (f' := ⟨i, D.seen i, 0, false⟩) (fobj_set1 (fobj_set0 FO.out i) (D.seen i))
  refine ⟨rfl, x1, ?_, K1.out⟩
  rw [← E1.out, ← e4]
  exact T1.out.trans (T23.out.trans t4)
end
end Go.Proofs.YtkjioabhdglkpaaGreat

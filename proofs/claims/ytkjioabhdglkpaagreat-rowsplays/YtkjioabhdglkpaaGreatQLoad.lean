/- take, load. -/
import Derived.Test.YtkjioabhdglkpaaGreatQGive
namespace Go.Proofs.YtkjioabhdglkpaaGreat
open Go.RowKit

section
variable {B : Nat} {w : World} {x : PX}

theorem OpsTo.valS {P : Program} {ops : Array Oper} {Q : Exit → Act → World → Prop} {rest : List Nat} {i : Nat} {o : Oper} {ts : Array Value} {df : List Deferred} (d : Nat) (v : Value) (ho : ops[i]? = some o) (hd : o.dst = some d) (hw : Region.wanted o (yielded ops ts) = true) (hr : (execOp (Act.eval ⟨ts, df⟩) o).run P w = .ok (.value v) w) (h : OpsTo P ops Q rest ⟨ts.setIfInBounds d v, df⟩ w) : OpsTo P ops Q (i :: rest) ⟨ts, df⟩ w :=
  .valD d v w ho hd hw hr h

/-- A frame that waits is taken. -/
theorem Pd.got (h : Pd B w x) {b : Nat} {F : List Nat} (hO : x.O = []) (hF : x.F = b :: F) {s r : Nat} : PTo B w x { x with O := [(b, Fm0)], F := F } (w.setChan x.c x.n (F.map ptr).toArray false s r false) := by
  have hc : x.c < w.heap.size := h.ltOwn (Or.inr (Or.inl rfl))
  refine h.setC [(b, Fm0)] F (fr_setChan _ _ _ _ _ _ _ _) ⟨s, r, Conc.heap_setChan _ _ _ _ _ _ _ _ hc⟩ ?_ ?_ ?_
  · rw [hO, hF]; exact List.Perm.refl _
  · intro y hy
    rw [List.mem_singleton] at hy
    rw [hy, hF]
    exact Or.inr ⟨rfl, by simp⟩
  · intro k hk
    rw [hF]
    exact Or.inl (List.mem_cons_of_mem _ hk)

theorem chan_head (b : Nat) (F : List Nat) : (List.map ptr (b :: F)).toArray.getD 0 undef = .pointer (some ⟨b, 0, none⟩) := rfl
theorem chan_tail (b : Nat) (F : List Nat) : (List.map ptr (b :: F)).toArray.extract 1 (List.map ptr (b :: F)).toArray.size = (F.map ptr).toArray := by simp [List.take_of_length_le]

set_option maxHeartbeats 1600000 in
set_option maxRecDepth 100000 in
theorem take_free (h : Pd B w x) {b : Nat} {F : List Nat} (hO : x.O = []) (hF : x.F = b :: F) :
    Calls Tryz.prog 145 #[.pointer (some ⟨x.p, 0, none⟩)] w fun e w' => e = .returned (.tuple #[.pointer (some ⟨b, 0, none⟩), .int .i64 0]) ∧ PTo B w x { x with O := [(b, Fm0)], F := F } w' := by
  obtain ⟨_, c1, _, _, _⟩ := h.cell
  obtain ⟨cs, cr, kc⟩ := h.chan
  rw [hF] at kc
  have HT : Hid (∀ s r, PTo B w x { x with O := [(b, Fm0)], F := F } (w.setChan x.c x.n (F.map ptr).toArray false s r false)) := fun s r => h.got hO hF
  clear h hO hF
  go_enter Tryz.func145, Tryz.ntmps145
  go_upto_region 2 with fail
  refine OpsTo.region ?_
  show OpsTo _ _ _ [0, 1, 2] _ _
  refine OpsTo.pickD 11 x.c (z := .pointer none) rfl rfl rfl (by simp [go_sem, execOp, Conc.rcase, Act.eval]) kc (by simp) ?_
  simp only [List.setIfInBounds_toArray, List.set_cons_zero, List.set_cons_succ]
  rw [chan_head, chan_tail]
  refine OpsTo.valS 12 (.int .i64 0) rfl rfl rfl (by simp [go_sem, execOp, Act.eval, goInt]) ?_
  simp only [List.setIfInBounds_toArray, List.set_cons_zero, List.set_cons_succ]
  refine OpsTo.valS 13 (.bool true) rfl rfl rfl (by simp [go_sem, execOp, Act.eval, goInt]) ?_
  simp only [List.setIfInBounds_toArray, List.set_cons_zero, List.set_cons_succ]
  refine OpsTo.done ?_
  simp only [Exit.then]
  go_wp2_with fail
  go_ret2
  exact ⟨rfl, HT.out _ _⟩

set_option maxHeartbeats 1600000 in
set_option maxRecDepth 100000 in
theorem take_pinned (h : Pd B w x) (hf : x.fv = x.hv) (hl : x.L.length ≤ 1000) (hF : x.F = []) (hU : unL x.L = []) :
    Calls Tryz.prog 145 #[.pointer (some ⟨x.p, 0, none⟩)] w fun e w' => e = .returned (.tuple #[.pointer none, .int .i64 70]) ∧ PTo B w x x w' := by
  obtain ⟨_, c1, _, _, _⟩ := h.cell
  obtain ⟨cs, cr, kc⟩ := h.chan
  rw [hF] at kc
  have c := unpinned_any h hf hl
  rw [hU] at c
  have HP : Hid (Pd B w x) := h
  clear h hF hU hf
  go_enter Tryz.func145, Tryz.ntmps145
  go_upto_region 2 with fail
  refine OpsTo.region ?_
  show OpsTo _ _ _ [0, 1, 2] _ _
  refine OpsTo.noneD 11 x.c (z := .pointer none) rfl rfl rfl (by simp [go_sem, execOp, Conc.rcase, Act.eval]) kc ?_
  simp only [List.setIfInBounds_toArray, List.set_cons_zero, List.set_cons_succ]
  refine OpsTo.valS 12 (.int .i64 (-1)) rfl rfl rfl (by simp [go_sem, execOp, Act.eval, goInt]) ?_
  simp only [List.setIfInBounds_toArray, List.set_cons_zero, List.set_cons_succ]
  refine OpsTo.valS 13 (.bool false) rfl rfl rfl (by simp [go_sem, execOp, Act.eval, goInt]) ?_
  simp only [List.setIfInBounds_toArray, List.set_cons_zero, List.set_cons_succ]
  refine OpsTo.done ?_
  simp only [Exit.then]
  go_wp2_with fail
  refine c.mono ?_
  rintro e w1 ⟨v, rfl, ho, hb⟩
  obtain ⟨va, vc, rfl⟩ : ∃ va vc, v = .slice va 0 vc := by
    rcases ho.2 with ⟨q, _⟩ | ⟨_, _, _, q, _⟩
    · exact ⟨_, _, q⟩
    · exact ⟨_, _, q⟩
  clear c
  go_wp2_with fail
  go_ret2
  exact ⟨rfl, PTo.of_below HP.out hb⟩

set_option maxHeartbeats 1600000 in
set_option maxRecDepth 100000 in
theorem take_no (h : Pd B w x) (hf : x.fv = x.hv) (hl : x.L.length ≤ 1000) (hF : x.F = []) {i b : Nat} {f : Fm} {U : List (Nat × Fm)} (hU : unL x.L = (b, f) :: U) (hi : x.L[i]? = some (b, f)) (hO : x.O = []) (bd : Nat) (hI : Inv bd x.D) (hbd : bd ≤ 10000000) (hpg : f.pg < x.D.n) (hs : f.s.size = 512) (hwr : x.wr ≤ 100000000) (hB : B ≤ w.heap.size) (he : wrE x.D f ≠ 0) :
    Calls Tryz.prog 145 #[.pointer (some ⟨x.p, 0, none⟩)] w fun e w' => e = .returned (.tuple #[.pointer none, .int .i64 (wrE x.D f)]) ∧ ∃ dv', PTo B w x { x with dv := dv', D := wrD x.D f } w' := by
  obtain ⟨_, c1, _, _, _⟩ := h.cell
  obtain ⟨cs, cr, kc⟩ := h.chan
  rw [hF] at kc
  have c := unpinned_any h hf hl
  rw [hU] at c
  have HP : Hid (Pd B w x) := h
  have cG : ∀ w1, Below w.heap.size w w1 → _ := fun w1 hb => give_no (h.below hb) hi hO bd hI hbd hpg hs hwr (Nat.le_trans hB hb.size) he
  have he2 : (wrE x.D f == 0) = false := by simpa using he
  obtain ⟨E, HE⟩ : ∃ E, Hid (wrE x.D f = E) := ⟨_, rfl⟩
  rw [HE.out] at he2 ⊢
  simp only [HE.out] at cG
  clear h hF hU hf hi hO he
  go_enter Tryz.func145, Tryz.ntmps145
  go_upto_region 2 with fail
  refine OpsTo.region ?_
  show OpsTo _ _ _ [0, 1, 2] _ _
  refine OpsTo.noneD 11 x.c (z := .pointer none) rfl rfl rfl (by simp [go_sem, execOp, Conc.rcase, Act.eval]) kc ?_
  simp only [List.setIfInBounds_toArray, List.set_cons_zero, List.set_cons_succ]
  refine OpsTo.valS 12 (.int .i64 (-1)) rfl rfl rfl (by simp [go_sem, execOp, Act.eval, goInt]) ?_
  simp only [List.setIfInBounds_toArray, List.set_cons_zero, List.set_cons_succ]
  refine OpsTo.valS 13 (.bool false) rfl rfl rfl (by simp [go_sem, execOp, Act.eval, goInt]) ?_
  simp only [List.setIfInBounds_toArray, List.set_cons_zero, List.set_cons_succ]
  refine OpsTo.done ?_
  simp only [Exit.then]
  go_wp2_with fail
  refine c.mono ?_
  rintro e w1 ⟨v, rfl, ho, hb⟩
  obtain ⟨va, vc, rfl, hvc, _, _, _, _, v0⟩ := own1_cell ho (i := 0) (u := .pointer (some ⟨b, 0, none⟩)) (by simp [ptrs, ptr])
  have hg := cG w1 hb
  clear c cG
  generalize hn : (List.length ((b, f) :: U)) = n at *
  have hn1 : 1 ≤ n := by rw [← hn]; simp
  have hn2 : ((n : Int) == 0) = false := by simp; omega
  clear hn
  go_wp2_with fail
  refine hg.mono ?_
  rintro e w2 ⟨rfl, dv2, t2⟩
  go_wp2_with fail
  go_ret2
  exact ⟨rfl, dv2, (PTo.of_below HP.out hb).trans t2⟩

set_option maxHeartbeats 1600000 in
set_option maxRecDepth 100000 in
theorem take_old (h : Pd B w x) (hf : x.fv = x.hv) (hl : x.L.length ≤ 1000) (hF : x.F = []) {i b : Nat} {f : Fm} {U : List (Nat × Fm)} (hU : unL x.L = (b, f) :: U) (hi : x.L[i]? = some (b, f)) (hO : x.O = []) (bd : Nat) (hI : Inv bd x.D) (hbd : bd ≤ 10000000) (hpg : f.pg < x.D.n) (hs : f.s.size = 512) (hwr : x.wr ≤ 100000000) (hB : B ≤ w.heap.size) (he : wrE x.D f = 0) :
    Calls Tryz.prog 145 #[.pointer (some ⟨x.p, 0, none⟩)] w fun e w' => e = .returned (.tuple #[.pointer (some ⟨b, 0, none⟩), .int .i64 0]) ∧ ∃ dv' hv', PTo B w x { x with fv := hv', hv := hv', dv := dv', D := wrD x.D f, wr := x.wr + wrN x.D f, L := x.L.eraseIdx i, O := [(b, Fm0)], F := [] } w' := by
  obtain ⟨_, c1, _, _, _⟩ := h.cell
  obtain ⟨cs, cr, kc⟩ := h.chan
  have c := unpinned_any h hf hl
  rw [hU] at c
  have HP : Hid (Pd B w x) := h
  have HF : Hid (x.F = []) := hF
  have HO : Hid (x.O = []) := hO
  have cG : ∀ w1, Below w.heap.size w w1 → _ := fun w1 hb => give_ok (h.below hb) hf hl hi hO bd hI hbd hpg hs hwr (Nat.le_trans hB hb.size) he
  simp only [hF, List.nil_append] at cG
  rw [hF] at kc
  clear h hF hU hf hi hO he
  go_enter Tryz.func145, Tryz.ntmps145
  go_upto_region 2 with fail
  refine OpsTo.region ?_
  show OpsTo _ _ _ [0, 1, 2] _ _
  refine OpsTo.noneD 11 x.c (z := .pointer none) rfl rfl rfl (by simp [go_sem, execOp, Conc.rcase, Act.eval]) kc ?_
  simp only [List.setIfInBounds_toArray, List.set_cons_zero, List.set_cons_succ]
  refine OpsTo.valS 12 (.int .i64 (-1)) rfl rfl rfl (by simp [go_sem, execOp, Act.eval, goInt]) ?_
  simp only [List.setIfInBounds_toArray, List.set_cons_zero, List.set_cons_succ]
  refine OpsTo.valS 13 (.bool false) rfl rfl rfl (by simp [go_sem, execOp, Act.eval, goInt]) ?_
  simp only [List.setIfInBounds_toArray, List.set_cons_zero, List.set_cons_succ]
  refine OpsTo.done ?_
  simp only [Exit.then]
  go_wp2_with fail
  refine c.mono ?_
  rintro e w1 ⟨v, rfl, ho, hb⟩
  obtain ⟨va, vc, rfl, hvc, _, _, _, _, v0⟩ := own1_cell ho (i := 0) (u := .pointer (some ⟨b, 0, none⟩)) (by simp [ptrs, ptr])
  have hg := cG w1 hb
  clear c cG
  generalize hn : (List.length ((b, f) :: U)) = n at *
  have hn1 : 1 ≤ n := by rw [← hn]; simp
  have hn2 : ((n : Int) == 0) = false := by simp; omega
  clear hn
  go_wp2_with fail
  refine hg.mono ?_
  rintro e w2 ⟨rfl, dv2, hv2, t2⟩
  have T2 : Hid (PTo B w1 x _ w2) := t2
  obtain ⟨_, k1, _, _, _⟩ := t2.pd.cell
  obtain ⟨cs2, cr2, kc2⟩ := t2.pd.chan
  have t3 := fun s r => t2.pd.got (s := s) (r := r) HO.out rfl
  have T3 : Hid (∀ s r, PTo B w2 _ _ _) := t3
  simp only at k1 kc2
  clear t2 t3 hg
  go_upto_region 11 with fail
  refine OpsTo.region ?_
  show OpsTo _ _ _ [0, 1, 2, 3, 4, 5, 6] _ _
  refine OpsTo.valS 29 (.pointer (some ⟨x.p, 0, none⟩)) rfl rfl rfl (by go_simp) ?_
  simp only [List.setIfInBounds_toArray, List.set_cons_zero, List.set_cons_succ]
  refine OpsTo.valS 30 (.pointer (some ⟨x.p, 0, none⟩)) rfl rfl rfl (by go_simp) ?_
  simp only [List.setIfInBounds_toArray, List.set_cons_zero, List.set_cons_succ]
  refine OpsTo.valS 31 (.pointer (some ⟨x.p, 1, none⟩)) rfl rfl rfl (by go_simp) ?_
  simp only [List.setIfInBounds_toArray, List.set_cons_zero, List.set_cons_succ]
  refine OpsTo.valS 32 (.chan (some x.c)) rfl rfl rfl (by go_simp) ?_
  simp only [List.setIfInBounds_toArray, List.set_cons_zero, List.set_cons_succ]
  refine OpsTo.recvD 33 x.c (z := .pointer none) rfl rfl rfl (by simp [go_sem, execOp, Conc.rcase, Act.eval]) kc2 (by simp) ?_
  simp only [List.setIfInBounds_toArray, List.set_cons_zero, List.set_cons_succ]
  rw [chan_head, chan_tail]
  refine OpsTo.valS 2 (.pointer (some ⟨b, 0, none⟩)) rfl rfl rfl (by go_simp) ?_
  simp only [List.setIfInBounds_toArray, List.set_cons_zero, List.set_cons_succ]
  refine OpsTo.valS 3 (.int .i64 0) rfl rfl rfl (by go_simp) ?_
  simp only [List.setIfInBounds_toArray, List.set_cons_zero, List.set_cons_succ]
  refine OpsTo.done ?_
  simp only [Exit.then]
  go_wp2_with fail
  go_ret2
  exact ⟨rfl, dv2, hv2, (PTo.of_below HP.out hb).trans (T2.out.trans (T3.out _ _))⟩
end
end Go.Proofs.YtkjioabhdglkpaaGreat

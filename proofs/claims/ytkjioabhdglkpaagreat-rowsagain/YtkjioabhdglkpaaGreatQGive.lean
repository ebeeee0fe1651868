/- giveUp. -/
import Derived.Test.YtkjioabhdglkpaaGreatQUnp
import Derived.Deep.Cut
namespace Go.Proofs.YtkjioabhdglkpaaGreat
open Go.RowKit

section
variable {B : Nat} {w : World} {x : PX}

set_option maxHeartbeats 1600000 in
set_option maxRecDepth 100000 in
theorem give_no (h : Pd B w x) {i b : Nat} {f : Fm} (hi : x.L[i]? = some (b, f)) (hO : x.O = []) (bd : Nat) (hI : Inv bd x.D) (hbd : bd ≤ 10000000) (hpg : f.pg < x.D.n) (hs : f.s.size = 512) (hwr : x.wr ≤ 100000000) (hB : B ≤ w.heap.size) (he : wrE x.D f ≠ 0) :
    Calls Tryz.prog 40 #[.pointer (some ⟨x.p, 0, none⟩), .pointer (some ⟨b, 0, none⟩)] w fun e w' => e = .returned (.int .i64 (wrE x.D f)) ∧ ∃ dv', PTo B w x { x with dv := dv', D := wrD x.D f } w' := by
  have c := write_any h hi hO bd hI hbd hpg hs hwr hB
  have HI : Hid (x.L[i]? = some (b, f)) := hi
  have hN : Hid (wrN x.D f = 0 ∧ wrF x.D f = f) := ⟨by unfold wrN; rw [if_neg (fun q => he q.2)], by unfold wrF; rw [if_neg he]⟩
  have he2 : (wrE x.D f == 0) = false := by simpa using he
  obtain ⟨E, HE⟩ : ∃ E, Hid (wrE x.D f = E) := ⟨_, rfl⟩
  rw [HE.out] at he2 c ⊢
  clear h hi hO he
  go_enter Tryz.func40, Tryz.ntmps40
  go_wp2_with fail
  refine c.mono ?_
  rintro e w1 ⟨rfl, dv1, t1⟩
  rw [hN.out.1, hN.out.2, Nat.add_zero, set_self HI.out] at t1
  clear c
  go_wp2_with fail
  go_ret
  exact ⟨rfl, dv1, t1⟩

theorem ptr_toArray (F : List Nat) (b : Nat) : (F.map ptr ++ [Value.pointer (some ⟨b, 0, none⟩)]).toArray = ((F ++ [b]).map ptr).toArray := by simp [ptr]

/-- A frame that was in hand waits. -/
theorem Pd.put (h : Pd B w x) {b : Nat} (hO : x.O = [(b, Fm0)]) {s r : Nat} : PTo B w x { x with O := [], F := x.F ++ [b] } (w.setChan x.c x.n (x.F.map ptr ++ [Value.pointer (some ⟨b, 0, none⟩)]).toArray false s r false) := by
  have hc : x.c < w.heap.size := h.ltOwn (Or.inr (Or.inl rfl))
  refine h.setC [] (x.F ++ [b]) (fr_setChan _ _ _ _ _ _ _ _) ⟨s, r, ?_⟩ ?_ (fun y hy => by cases hy) ?_
  · rw [ptr_toArray, Conc.heap_setChan _ _ _ _ _ _ _ _ hc]
  · rw [hO]
    simp only [List.map_nil, List.nil_append, List.map_cons, List.singleton_append]
    exact (List.perm_append_comm (l₁ := x.F) (l₂ := [b]))
  · intro k hk
    rcases List.mem_append.1 hk with q | q
    · exact Or.inl q
    · rw [List.mem_singleton] at q
      rw [q, hO]
      exact Or.inr (by simp)

/-- What is in hand is changed. -/
theorem Pd.setO (h : Pd B w x) {b : Nat} {f f' : Fm} (hO : x.O = [(b, f)]) {w' : World} (hs : Fr (fun k => k = b) w w') (hf : w'.heap[b]? = some (fobj f')) : PTo B w x { x with O := [(b, f')] } w' := by
  have hn : b ∉ x.L.map Prod.fst := by
    have := (List.nodup_append.1 h.nd).1
    rw [List.map_append, hO] at this
    intro hb
    exact (List.nodup_append.1 this).2.2 b hb b (by simp) rfl
  have := h.setFr (f := f) (by rw [hO]; simp) hs hf
  rw [up_not b f' x.L hn, hO, up_one] at this
  exact this

theorem fr_four (w : World) (b : Nat) (u0 u1 u2 u3 : Value) : Fr (fun k => k = b) w ((((w.setCell ⟨b, 0, none⟩ u0).setCell ⟨b, 1, none⟩ u1).setCell ⟨b, 2, none⟩ u2).setCell ⟨b, 3, none⟩ u3) :=
  (((fr_set w b 0 u0).set (p := ⟨b, 1, none⟩) (Or.inl rfl) u1).set (p := ⟨b, 2, none⟩) (Or.inl rfl) u2).set (p := ⟨b, 3, none⟩) (Or.inl rfl) u3

set_option maxHeartbeats 1600000 in
set_option maxRecDepth 100000 in
theorem give_ok (h : Pd B w x) (hf : x.fv = x.hv) (hl : x.L.length ≤ 1000) {i b : Nat} {f : Fm} (hi : x.L[i]? = some (b, f)) (hO : x.O = []) (bd : Nat) (hI : Inv bd x.D) (hbd : bd ≤ 10000000) (hpg : f.pg < x.D.n) (hs : f.s.size = 512) (hwr : x.wr ≤ 100000000) (hB : B ≤ w.heap.size) (he : wrE x.D f = 0) :
    Calls Tryz.prog 40 #[.pointer (some ⟨x.p, 0, none⟩), .pointer (some ⟨b, 0, none⟩)] w fun e w' => e = .returned (.int .i64 0) ∧ ∃ dv' hv', PTo B w x { x with fv := hv', hv := hv', dv := dv', D := wrD x.D f, wr := x.wr + wrN x.D f, L := x.L.eraseIdx i, F := x.F ++ [b] } w' := by
  have c := write_any h hi hO bd hI hbd hpg hs hwr hB
  rw [he] at c
  have HI : Hid (x.L[i]? = some (b, f)) := hi
  have HO : Hid (x.O = []) := hO
  have HF : Hid (x.fv = x.hv) := hf
  clear h hi hO he hf
  go_enter Tryz.func40, Tryz.ntmps40
  go_wp2_with fail
  refine c.mono ?_
  rintro e w1 ⟨rfl, dv1, t1⟩
  clear c
  have hlt : i < x.L.length := (List.getElem?_eq_some_iff.1 HI.out).1
  have hi1 : (x.L.set i (b, wrF x.D f))[i]? = some (b, wrF x.D f) := by simp [hlt]
  have hbf := (t1.pd.inL hi1).1
  have c2 := without_any t1.pd HF.out (by simpa using hl) b (by rw [hbf]; exact isFm_fobj _)
  have e1 := filt_in hi1 t1.pd.ndL
  have e2 : (x.L.set i (b, wrF x.D f)).eraseIdx i = x.L.eraseIdx i := List.eraseIdx_set_eq
  rw [e1.1, e1.2, e2, HO.out, List.append_nil] at c2
  have T1 : Hid (PTo B w x _ w1) := t1
  clear t1 e1 e2 hi1 hbf
  go_wp2_with fail
  refine c2.mono ?_
  rintro e w2 ⟨hv2, rfl, t2⟩
  clear c2
  have T2 : Hid (PTo B w1 _ _ w2) := t2
  obtain ⟨_, _, d2, _, _⟩ := t2.pd.cell
  have z2 := t2.pd.free? 2
  simp only at d2 z2
  obtain ⟨sa, sc, ev, _, _⟩ := t2.pd.hvOf
  simp only at ev
  subst ev
  clear t2
  go_upto_region 5 with fail
  have t3 := T2.out.pd.setFv (.slice sa (x.L.eraseIdx i).length sc)
  have T3 : Hid (PTo B w2 _ _ _) := t3
  have hbo : (b, wrF x.D f) ∈ x.L.eraseIdx i ++ [(b, wrF x.D f)] := by simp
  have hfo := (t3.pd.fr _ hbo).1
  simp only at hfo
  have HFO : Hid ((w2.setCell ⟨x.p, 2, none⟩ (.slice sa (x.L.eraseIdx i).length sc)).heap[b]? = some (fobj (wrF x.D f))) := hfo
  obtain ⟨g0, g1, g2, g3⟩ := fobj_cell hfo
  have y0 := fobj_free hfo 0
  have y1 := fobj_free hfo 1
  have y2 := fobj_free hfo 2
  have y3 := fobj_free hfo 3
  clear t3 hfo
  generalize hW3 : w2.setCell ⟨x.p, 2, none⟩ (.slice sa (x.L.eraseIdx i).length sc) = w3 at *
  go_upto_region 6 with fail
  have hz := fobj_set3 (fobj_set2 (fobj_set1 (fobj_set0 HFO.out 0) ⟨#[]⟩) 0) false
  have t4 := T3.out.pd.setO (b := b) (f := wrF x.D f) rfl (fr_four w3 b (.int .i64 0) (.string ⟨#[]⟩) (.int .i64 0) (.bool false)) (f' := Fm0) hz
  have T4 : Hid (PTo B w3 _ _ _) := t4
  obtain ⟨_, k1, _, _, _⟩ := t4.pd.cell
  obtain ⟨cs, cr, kc⟩ := t4.pd.chan
  have hlen := t4.pd.len
  simp only [List.length_singleton] at k1 kc hlen
  clear t4 hz
  generalize hW4 : (((w3.setCell ⟨b, 0, none⟩ (.int .i64 0)).setCell ⟨b, 1, none⟩ (.string ⟨#[]⟩)).setCell ⟨b, 2, none⟩ (.int .i64 0)).setCell ⟨b, 3, none⟩ (.bool false) = w4 at *
  refine OpsTo.region ?_
  show OpsTo _ _ _ [0, 1, 2, 3, 4, 5] _ _
  refine OpsTo.valD 21 (.pointer (some ⟨x.p, 0, none⟩)) w4 rfl rfl rfl (by go_simp) ?_
  simp only [List.setIfInBounds_toArray, List.set_cons_zero, List.set_cons_succ]
  refine OpsTo.valD 22 (.pointer (some ⟨x.p, 0, none⟩)) w4 rfl rfl rfl (by go_simp) ?_
  simp only [List.setIfInBounds_toArray, List.set_cons_zero, List.set_cons_succ]
  refine OpsTo.valD 23 (.pointer (some ⟨x.p, 1, none⟩)) w4 rfl rfl rfl (by go_simp) ?_
  simp only [List.setIfInBounds_toArray, List.set_cons_zero, List.set_cons_succ]
  refine OpsTo.valD 24 (.chan (some x.c)) w4 rfl rfl rfl (by go_simp) ?_
  simp only [List.setIfInBounds_toArray, List.set_cons_zero, List.set_cons_succ]
  refine OpsTo.valD 25 (.pointer (some ⟨b, 0, none⟩)) w4 rfl rfl rfl (by go_simp) ?_
  simp only [List.setIfInBounds_toArray, List.set_cons_zero, List.set_cons_succ]
  refine OpsTo.sendD x.c (.pointer (some ⟨b, 0, none⟩)) rfl rfl rfl (by simp [execOp, Conc.scase, Act.eval]) kc (by simp; omega) ?_
  refine OpsTo.done ?_
  simp only [Exit.then]
  go_wp2_with fail
  go_ret
  refine ⟨rfl, dv1, .slice sa (x.L.eraseIdx i).length sc, ?_⟩
  have q1 := T1.out
  rw [HO.out] at q1 ⊢
  exact q1.trans (T2.out.trans (T3.out.trans (T4.out.trans (T4.out.pd.put rfl))))
end
end Go.Proofs.YtkjioabhdglkpaaGreat

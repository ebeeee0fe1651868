/- append of a frame's address; use. -/
import Derived.Test.YtkjioabhdglkpaaGreatQDel
namespace Go.Proofs.YtkjioabhdglkpaaGreat
open Go.RowKit

theorem Tryz.info84 : (Tryz.prog.info? 84).map (fun i => (i.zero, i.size, i.bytes)) = some (some (.pointer none), 1, 8) := by kernel_rfl
theorem fr_grown {w w' : World} {row : Option Nat} (h : w.grownBy w' row) : Fr (fun k => row = some k) w w' :=
  Fr.grown (Fr.refl _ _) h (fun _ e => Or.inl e)

/-- append of one pointer. -/
theorem run_append_ptr (w : World) (B : Nat) (ty : TypeId) (v : Value) (n : Nat) (xs : List Value) (h : w.ownsRow B 84 1 v n xs) (a b : Nat) (hm : w.cell? ⟨a, 0, none⟩ = some (.pointer (some ⟨b, 0, none⟩))) (hlen : n ≤ 100000) (hB : B ≤ w.heap.size) :
    ∃ v' w', (Builtin.append_ #[81, 81] ty #[v, .slice (some ⟨a, 0, none⟩) 1 1]).run Tryz.prog w = .ok v' w' ∧ w'.ownsRow B 84 1 v' (n + 1) (xs ++ [.pointer (some ⟨b, 0, none⟩)]) ∧ Fr (fun k => v.ownBlock = some k) w w' ∧ ∀ k, v'.ownBlock = some k → v.ownBlock = some k ∨ w.heap.size ≤ k := by
  obtain ⟨i0, hi, hz0, hz1, hz2⟩ := info_parts Tryz.info84
  obtain ⟨v', w', hr, h2, h3, h4⟩ := run_append_own2 (P := Tryz.prog) w B 81 ty 84 i0 _ 1 8 Tryz.underlying81 hi hz0 hz1 hz2 rfl (by decide) v n xs h ⟨a, 0, none⟩ 1 1 [.pointer (some ⟨b, 0, none⟩)] rfl
    (fun j u hu => by
      rw [Addr.add_lit]
      match j, hu with
      | 0, hu => simp at hu; subst hu; exact hm)
    (by intro u hu; simp at hu; subst hu; rfl) (by unfold maxLen; omega) (by omega) hB
  exact ⟨v', w', hr, h2, fr_grown h3, h4⟩

theorem wpList_append_ptr {ops : Array Oper} {rest : List Oper} {o : Oper} {ac : Act} {Q : Exit → Act → World → Prop} (w : World) (hgd : o.guard = none) (s x : Operand)
    (ho : o.op = .call { callee := .builtin .append, args := #[s, x], argTypes := #[81, 81] })
    (B : Nat) (v : Value) (n : Nat) (xs : List Value) (hs : ac.eval s = v) (hrow : w.ownsRow B 84 1 v n xs) (a b : Nat) (hx : ac.eval x = .slice (some ⟨a, 0, none⟩) 1 1) (hm : w.cell? ⟨a, 0, none⟩ = some (.pointer (some ⟨b, 0, none⟩))) (hlen : n ≤ 100000) (hB : B ≤ w.heap.size)
    (h : ∀ v' w', w'.ownsRow B 84 1 v' (n + 1) (xs ++ [.pointer (some ⟨b, 0, none⟩)]) → Fr (fun k => v.ownBlock = some k) w w' → (∀ k, v'.ownBlock = some k → v.ownBlock = some k ∨ w.heap.size ≤ k) → wpList Tryz.prog ops Q rest (ac.put o.dst v') w') : wpList Tryz.prog ops Q (o :: rest) ac w := by
  obtain ⟨v', w', hr, h2, h3, h4⟩ := run_append_ptr w B o.type v n xs hrow a b hm hlen hB
  refine wpList_plain hgd fun K hK => ?_
  unfold Oper.wp execOp
  simp only [ho, resolve, invoke, builtin, Sem.run_bind, Sem.run_pure, Result.andThen_ok, List.map_toArray, List.map_cons, List.map_nil, hs, hx, hr]
  exact hK _ _ (h v' w' h2 h3 h4)

/-- What a frame's use makes of those that are held. -/
def usedL (L : List (Nat × Fm)) (b : Nat) (f : Fm) : List (Nat × Fm) := L.filter (fun y : Nat × Fm => !(y.1 == b)) ++ [(b, f)]

section
variable {B : Nat} {w : World} {x : PX}

theorem filt_in {L : List (Nat × Fm)} {i b : Nat} {f : Fm} (hi : L[i]? = some (b, f)) (hn : (L.map Prod.fst).Nodup) : L.filter (fun y : Nat × Fm => !(y.1 == b)) = L.eraseIdx i ∧ L.filter (fun y : Nat × Fm => y.1 == b) = [(b, f)] := by
  induction L generalizing i with
  | nil => simp at hi
  | cons y L ih =>
    simp only [List.map_cons, List.nodup_cons] at hn
    cases i with
    | zero =>
      simp at hi
      subst hi
      have h0 : ∀ z ∈ L, z.1 ≠ b := fun z hz e => hn.1 (List.mem_map.2 ⟨z, hz, e⟩)
      constructor
      · simp only [List.filter_cons, beq_self_eq_true, Bool.not_true, Bool.false_eq_true, if_false, List.eraseIdx_cons_zero]
        exact List.filter_eq_self.2 (fun z hz => by simp [h0 z hz])
      · simp only [List.filter_cons, beq_self_eq_true, if_true]
        rw [List.filter_eq_nil_iff.2 (fun z hz => by simp [h0 z hz])]
    | succ i =>
      simp at hi
      obtain ⟨e1, e2⟩ := ih hi hn.2
      have hne : y.1 ≠ b := fun e => hn.1 (List.mem_map.2 ⟨(b, f), List.mem_of_getElem? hi, e.symm⟩)
      constructor
      · simp only [List.filter_cons, List.eraseIdx_cons_succ]
        rw [if_pos (by simp [hne]), e1]
      · simp only [List.filter_cons]
        rw [if_neg (by simp [hne]), e2]

theorem filt_out {L : List (Nat × Fm)} {b : Nat} (hn : b ∉ L.map Prod.fst) : L.filter (fun y : Nat × Fm => !(y.1 == b)) = L ∧ L.filter (fun y : Nat × Fm => y.1 == b) = [] := by
  have h0 : ∀ z ∈ L, z.1 ≠ b := fun z hz e => hn (List.mem_map.2 ⟨z, hz, e⟩)
  exact ⟨List.filter_eq_self.2 (fun z hz => by simp [h0 z hz]), List.filter_eq_nil_iff.2 (fun z hz => by simp [h0 z hz])⟩

theorem Pd.ndL (h : Pd B w x) : (x.L.map Prod.fst).Nodup := by
  have := (List.nodup_append.1 h.nd).1
  rw [List.map_append] at this
  exact (List.nodup_append.1 this).1

/-- Either it is held, or somebody has it in hand. -/
def OneOf (x : PX) (b : Nat) (f : Fm) : Prop := ((∃ i : Nat, x.L[i]? = some (b, f)) ∧ x.O = []) ∨ x.O = [(b, f)]

theorem Pd.one (h : Pd B w x) {b : Nat} {f : Fm} (hb : OneOf x b f) : x.L.filter (fun y : Nat × Fm => y.1 == b) ++ x.O = [(b, f)] ∧ w.heap[b]? = some (fobj f) := by
  rcases hb with ⟨⟨i, hi⟩, e⟩ | e
  · rw [(filt_in hi h.ndL).2, e]
    exact ⟨rfl, (h.inL hi).1⟩
  · have hn : b ∉ x.L.map Prod.fst := by
      have := (List.nodup_append.1 h.nd).1
      rw [List.map_append, e] at this
      intro hb
      exact (List.nodup_append.1 this).2.2 b hb b (by simp) rfl
    rw [(filt_out hn).2, e]
    exact ⟨rfl, (h.fr (b, f) (by rw [e]; simp)).1⟩

set_option maxHeartbeats 1600000 in
set_option maxRecDepth 100000 in
theorem use_any (h : Pd B w x) (hf : x.fv = x.hv) (hl : x.L.length ≤ 1000) (b : Nat) (f : Fm) (hb : OneOf x b f) (hB : B ≤ w.heap.size) :
    Calls Tryz.prog 113 #[.pointer (some ⟨x.p, 0, none⟩), .pointer (some ⟨b, 0, none⟩)] w fun e w' => e = .returned (.tuple #[]) ∧ ∃ hv', PTo B w x { x with fv := hv', hv := hv', L := usedL x.L b f, O := [] } w' := by
  obtain ⟨hO, hbf⟩ := h.one hb
  have c := without_any h hf hl b (by rw [hbf]; exact isFm_fobj f)
  have H : Hid (Pd B w x) := h
  have HO : Hid (x.L.filter (fun y : Nat × Fm => y.1 == b) ++ x.O = [(b, f)]) := hO
  clear h hf hO hb hbf
  go_enter Tryz.func113, Tryz.ntmps113
  go_wp2_with fail
  refine c.mono ?_
  rintro e w1 ⟨hv1, rfl, t1⟩
  clear c
  have hp := t1.p
  have hs1 := t1.fr.size
  have T1 : Hid (PTo B w x { x with hv := hv1, L := x.L.filter (fun y : Nat × Fm => !(y.1 == b)), O := x.L.filter (fun y : Nat × Fm => y.1 == b) ++ x.O } w1) := t1
  have hb2 := below_alloc1 w1 (.cells #[.pointer (some ⟨b, 0, none⟩)] 84)
  have d2 := t1.pd.below hb2
  have D2 : Hid (Pd B (w1.alloc (.cells #[.pointer (some ⟨b, 0, none⟩)] 84)) { x with hv := hv1, L := x.L.filter (fun y : Nat × Fm => !(y.1 == b)), O := x.L.filter (fun y : Nat × Fm => y.1 == b) ++ x.O }) := d2
  have hrow := d2.row
  simp only at hrow
  obtain ⟨sa, sc, ev, _, _⟩ := d2.hvOf
  simp only at ev
  subst ev
  have hL : (x.L.filter (fun y : Nat × Fm => !(y.1 == b))).length ≤ x.L.length := List.length_filter_le _ _
  have hB2 : B ≤ (w1.alloc (.cells #[.pointer (some ⟨b, 0, none⟩)] 84)).heap.size := Nat.le_trans (Nat.le_trans hB hs1) hb2.size
  have hm2 : (w1.alloc (.cells #[.pointer (some ⟨b, 0, none⟩)] 84)).cell? ⟨w1.heap.size, 0, none⟩ = some (.pointer (some ⟨b, 0, none⟩)) := by simp
  have hpm : (usedL x.L b f ++ []).Perm (x.L.filter (fun y : Nat × Fm => !(y.1 == b)) ++ (x.L.filter (fun y : Nat × Fm => y.1 == b) ++ x.O)) := by
    rw [HO.out, List.append_nil]; exact List.Perm.refl _
  have PM : Hid ((usedL x.L b f ++ []).Perm (x.L.filter (fun y : Nat × Fm => !(y.1 == b)) ++ (x.L.filter (fun y : Nat × Fm => y.1 == b) ++ x.O))) := hpm
  have HE : Hid ((usedL x.L b f).length = (x.L.filter (fun y : Nat × Fm => !(y.1 == b))).length + 1 ∧ ptrs (usedL x.L b f) = ptrs (x.L.filter (fun y : Nat × Fm => !(y.1 == b))) ++ [.pointer (some ⟨b, 0, none⟩)]) := ⟨by simp [usedL], by simp [usedL, ptrs, ptr]⟩
  clear t1 d2 hpm
  go_wp2_with (at_builtin; refine wpList_append_ptr _ rfl (.tmp 7) (.tmp 9) rfl B _ _ _ rfl hrow w1.heap.size b rfl hm2 (by omega) hB2 ?_; intro v' w' hrow' hfr hnew; rw [← HE.out.1, ← HE.out.2] at hrow'; have t3 := D2.out.reRow v' _ _ hfr hrow' PM.out hnew; have T3 : Hid (PTo _ _ _ _ _) := t3; have c3 := t3.pd.cell.2.2.1; have z3 := t3.pd.free? 2; obtain ⟨sa', n', sc', rfl⟩ := owns_slice hrow'; simp only at c3 z3; clear t3 hrow')
  go_end0
  exact ⟨rfl, _, T1.out.trans ((PTo.of_below T1.out.pd hb2).trans (T3.out.trans (T3.out.pd.setFv _)))⟩
end
end Go.Proofs.YtkjioabhdglkpaaGreat

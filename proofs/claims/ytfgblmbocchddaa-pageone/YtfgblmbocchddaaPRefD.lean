/- The document's page: Insert. -/
import Derived.Test.YtfgblmbocchddaaPRefA
namespace Go.Proofs.Ytfgblmbocchddaa
open Go.RowKit

/-- append of a row of slots to an empty one. -/
theorem wpList_copy_rf {ops : Array Oper} {rest : List Oper} {o : Oper} {act : Act} {Q : Exit → Act → World → Prop} (hgd : o.guard = none) (s x : Operand)
    (ho : o.op = .call { callee := .builtin .append, args := #[s, x], argTypes := #[27, 27] })
    (w : World) (H : Nat) (hH : H = w.heap.size) (hs : act.eval s = .slice (some ⟨H, 0, none⟩) 0 0) (B : Nat) (v : Value) (l : List Sl) (hx : act.eval x = v) (hrow : Rw 63 rf w B v l) (hl : l.length ≤ 1000)
    (h : ∀ v' w8, Rw 63 rf w8 w.heap.size v' l → Below w.heap.size w w8 → wpList Try.prog ops Q rest (act.put o.dst v') w8) :
    wpList Try.prog ops Q (o :: rest) act (w.alloc (.cells #[] 63)) := by
  subst hH
  obtain ⟨i0, hi, hz0, hz1, hz2⟩ := info_parts Try.info63
  have hmade : (w.alloc (.cells #[] 63)).ownsRow w.heap.size 63 2 (.slice (some ⟨w.heap.size, 0, none⟩) 0 0) 0 [] := World.ownsRow_made w #[] 0 (Nat.le_refl _) (Nat.zero_le _) rfl
  have hrow' := hrow.below' (below_alloc1 w (.cells #[] 63))
  rcases hrow.own.2 with ⟨rfl, e⟩ | ⟨g, cap, cur, rfl, _, _, hlc, hcm, _⟩
  · have e : l = [] := List.eq_nil_of_length_eq_zero e
    subst e
    refine wpList_append_own_none hgd s x 27 ho w.heap.size 63 i0 2 Try.underlying27 hi _ 0 [] hs hmade hx ?_
    exact h _ _ ⟨hmade⟩ (below_alloc1 w _)
  · refine wpList_append_own _ hgd s x 27 ho w.heap.size 63 i0 _ 2 24 Try.underlying27 hi hz0 hz1 hz2 rfl (by decide) _ 0 [] hs hmade ⟨g, 0, none⟩ l.length cap (cl2 rf l) hx (cl2_len l) ?_ (rf_one l) (by unfold maxLen; omega) (by omega) (by simp) ?_
    · intro j u hu
      rw [Addr.add_lit, Nat.zero_add]
      have hj := (List.getElem?_eq_some_iff.1 hu).1
      rw [cl2_len] at hj
      rw [hrow'.own.cellAt j (by omega)]
      exact hu
    · intro v8 w8 ho8 hg8 _
      rw [Nat.zero_add, List.nil_append] at ho8
      exact h v8 w8 ⟨ho8⟩ ((below_alloc1 w _).trans ((Below.refl _ _).grown hg8 (by simp) (fun k hk => by cases hk; exact Nat.le_refl _)))

/-- append of one slot. -/
theorem wpList_append_rf {ops : Array Oper} {rest : List Oper} {o : Oper} {ac : Act} {Q : Exit → Act → World → Prop} (w : World) (hgd : o.guard = none) (s x : Operand)
    (ho : o.op = .call { callee := .builtin .append, args := #[s, x], argTypes := #[27, 27] })
    (B : Nat) (v : Value) (l : List Sl) (hs : ac.eval s = v) (hrow : Rw 63 rf w B v l) (a : Nat) (y : Sl) (hx : ac.eval x = .slice (some ⟨a, 0, none⟩) 1 1) (h0 : w.cell? ⟨a, 0, none⟩ = some (rf y).1) (h1 : w.cell? ⟨a, 1, none⟩ = some (rf y).2) (hlen : l.length ≤ 1000) (hB : B ≤ w.heap.size)
    (h : ∀ v' w', Rw 63 rf w' B v' (l ++ [y]) → Fr (fun k => v.ownBlock = some k) w w' → (∀ k, v'.ownBlock = some k → v.ownBlock = some k ∨ w.heap.size ≤ k) → wpList Try.prog ops Q rest (ac.put o.dst v') w') : wpList Try.prog ops Q (o :: rest) ac w := by
  obtain ⟨v', w', hr, h2, h3, h4⟩ := run_append_rf w B o.type v l [y] hrow ⟨a, 0, none⟩ 1 (by
    intro j u hu
    rw [Addr.add_lit]
    match j, hu with
    | 0, hu => simp [cl2] at hu; subst hu; exact h0
    | 1, hu => simp [cl2] at hu; subst hu; exact h1) (by simp; omega) hB
  refine wpList_plain hgd fun K hK => ?_
  unfold Oper.wp execOp
  simp only [List.length_cons, List.length_nil, Nat.zero_add] at hr
  simp only [ho, resolve, invoke, builtin, Sem.run_bind, Sem.run_pure, Result.andThen_ok, List.map_toArray, List.map_cons, List.map_nil, hs, hx, hr]
  exact hK _ _ (h v' w' h2 h3 h4)

theorem insert_new {B : Nat} {w : World} {qb : Nat} {v : Value} {l : List Sl} {w8 w9 : World} {v8 v9 : Value} {o : Obj} (row : ByteArray) (h : Pgr B w qb v l) (hBw : B ≤ w.heap.size) (hr8 : Rw 63 rf w8 w.heap.size v8 l) (hb8 : Below w.heap.size w w8) (hr9 : Rw 63 rf w9 w.heap.size v9 (l ++ [none])) (hf9 : Fr (fun k => v8.ownBlock = some k) (w8.alloc o) w9) :
    ∃ b c9, v9 = .slice (some ⟨b, 0, none⟩) (l.length + 1) c9 ∧ l.length + 1 ≤ c9 ∧ w9.cell? ⟨qb, 0, none⟩ = some v ∧ w9.frozen? ⟨qb, 0, none⟩ = false ∧ qb ≠ b ∧
      w9.cell? ⟨b, l.length * 2, none⟩ = some (.string ⟨#[]⟩) ∧ w9.cell? ⟨b, l.length * 2 + 1, none⟩ = some (.bool false) ∧ w9.frozen? ⟨b, l.length * 2, none⟩ = false ∧ w9.frozen? ⟨b, l.length * 2 + 1, none⟩ = false ∧
      PTo B w qb v ((l ++ [none]).set l.length (some row)) (((w9.setCell ⟨qb, 0, none⟩ (.slice (some ⟨b, 0, none⟩) (l.length + 1) c9)).setCell ⟨b, l.length * 2, none⟩ (.string row)).setCell ⟨b, l.length * 2 + 1, none⟩ (.bool true)) := by
  have hb9 : Below w.heap.size w w9 := hf9.below (hb8.trans ((below_alloc1 w8 o).mono hb8.size)) (by have := hb8.size; simp; omega) (fun k e => (hr8.blk e).1)
  have h9 := h.below hb9
  obtain ⟨b, c9, e, hc9, _, hB9, hbl, c0, c1, f0, f1⟩ := hr9.cell (i := l.length) (s := none) (by simp)
  have hlen : (l ++ [none]).length = l.length + 1 := by simp
  rw [hlen] at e hc9
  have hq := h.qlt
  have hp := h9.put (hr9.mono hBw) (by rw [e]; intro q; have q : b = qb := Option.some.inj q; omega)
  rw [e] at hp
  obtain ⟨q1, q2⟩ := h9.cell
  refine ⟨b, c9, e, hc9, q1, q2, by omega, c0, c1, f0, f1, ?_⟩
  have hr := hp.row
  rw [← hlen] at hr
  have hrw := hr.set2 (i := l.length) (s := some row)
  rw [hlen] at hrw
  have f : Fr (fun k => (Value.slice (some ⟨b, 0, none⟩) (l.length + 1) c9).ownBlock = some k) (w9.setCell ⟨qb, 0, none⟩ (.slice (some ⟨b, 0, none⟩) (l.length + 1) c9)) (((w9.setCell ⟨qb, 0, none⟩ (.slice (some ⟨b, 0, none⟩) (l.length + 1) c9)).setCell ⟨b, l.length * 2, none⟩ (.string row)).setCell ⟨b, l.length * 2 + 1, none⟩ (.bool true)) :=
    Fr.set (F := fun k => (Value.slice (some ⟨b, 0, none⟩) (l.length + 1) c9).ownBlock = some k) (Fr.set (F := fun k => (Value.slice (some ⟨b, 0, none⟩) (l.length + 1) c9).ownBlock = some k) (Fr.refl _ _) (p := ⟨b, l.length * 2, none⟩) (Or.inl rfl) _) (p := ⟨b, l.length * 2 + 1, none⟩) (Or.inl rfl) _
  refine ⟨_, hp.over hrw f, ?_, ?_⟩
  · exact Fr.set (F := footP qb v) (Fr.set (F := footP qb v) (Fr.set (F := footP qb v) (Fr.of_below hb9) (p := ⟨qb, 0, none⟩) (Or.inl (Or.inl rfl)) _) (p := ⟨b, l.length * 2, none⟩) (Or.inr hB9) _) (p := ⟨b, l.length * 2 + 1, none⟩) (Or.inr hB9) _
  · intro k e
    have e : b = k := Option.some.inj e
    exact Or.inr (by omega)

set_option maxHeartbeats 3200000 in
set_option maxRecDepth 100000 in
theorem rins_any {B : Nat} {w : World} {qb : Nat} {v : Value} {l : List Sl} (h : Pgr B w qb v l) (hBw : B ≤ w.heap.size) (hF : Fine l) (row : ByteArray) (hrs : row.size ≤ 1000000) (P : ByteArray) (K E : Int) (HE : Hid (insR l row = (P, K, E))) :
    Calls Try.prog 27 #[.pointer (some ⟨qb, 0, none⟩), .string row] w fun e w' => e = .returned (.tuple #[.int .i64 K, .int .i64 E]) ∧ PTo B w qb v (insN l row) w' := by
  have hl : l.length ≤ 127 := few hF.room
  obtain ⟨hc0, hcf⟩ := h.cell
  by_cases h4 : 400 < row.size
  · have h42 : (400 : Int) < (row.size : Int) := by omega
    have hE : insE l row = 2 := by unfold insE; rw [if_pos h4]
    obtain ⟨rfl, rfl⟩ : K = 0 ∧ E = 2 := by
      have := HE.out
      unfold insR at this
      rw [hE, if_neg (by decide)] at this
      cases this
      exact ⟨rfl, rfl⟩
    have hN : insN l row = l := by unfold insN; rw [hE]; rfl
    have hP := PTo.same h
    rw [hN]
    clear hE hN HE
    go_enter Try.func27, Try.ntmps27
    go_wp2_with fail
    go_ret2
    exact ⟨rfl, hP⟩
  · have h42 : ¬ (400 : Int) < (row.size : Int) := by omega
    obtain ⟨T, hT⟩ : ∃ T : Int, 4 + 4 * (l.length : Int) + (tot l : Int) = T := ⟨_, rfl⟩
    have cS := rsize_any h (by omega) hF.rows T hT
    have hTb : 0 ≤ T ∧ T ≤ 512 := by have := hF.room; unfold room at this; omega
    have hw := withF_tot l
    have hfl := first_le l
    have cF := rfirst_any h (by omega) (first l) rfl
    by_cases hf : first l < l.length
    · have hne : ((first l : Int) == (l.length : Int)) = false := by rw [beq_eq_false_iff_ne]; omega
      have hwf : withF l = l := by unfold withF; rw [if_pos hf]
      by_cases h5 : 512 < T + (row.size : Int)
      · have hE : insE l row = 50 := by unfold insE; rw [if_neg h4, hwf, if_pos (by unfold room; omega)]
        obtain ⟨rfl, rfl⟩ : K = 0 ∧ E = 50 := by
          have := HE.out
          unfold insR at this
          rw [hE, if_neg (by decide)] at this
          cases this
          exact ⟨rfl, rfl⟩
        have hN : insN l row = l := by unfold insN; rw [hE]; rfl
        have hP := PTo.same h
        rw [hN]
        obtain ⟨a, c, hv, hlc, _⟩ := h.row.len
        subst hv
        generalize first l = F at *
        clear hE hN HE hT hwf hw
        go_enter Try.func27, Try.ntmps27
        go_wp2_with fail
        refine cF.mono ?_
        rintro e w1 ⟨rfl, e1⟩
        rw [e1]
        clear e1 cF
        go_wp2_with fail
        refine cS.mono ?_
        rintro e w2 ⟨rfl, e2⟩
        rw [e2]
        clear e2 cS
        go_wp2_with fail
        go_ret2
        exact ⟨rfl, hP⟩
      · have hE : insE l row = 0 := by unfold insE; rw [if_neg h4, hwf, if_neg (by unfold room; omega)]
        obtain ⟨rfl, rfl⟩ : K = (first l : Int) ∧ E = 0 := by
          have := HE.out
          unfold insR at this
          rw [if_pos hE] at this
          cases this
          exact ⟨rfl, rfl⟩
        have hN : insN l row = l.set (first l) (some row) := by unfold insN insL; rw [hE, if_pos rfl, hwf]
        have hx := first_none l hf
        rw [hN]
        generalize first l = F at *
        obtain ⟨b, c, e, hlc, _, hB, hbl, c0, c1, f0, f1⟩ := h.row.cell hx
        subst e
        have c0' : w.cell? ⟨b, F * 2, none⟩ = some (.string ⟨#[]⟩) := c0
        have c1' : w.cell? ⟨b, F * 2 + 1, none⟩ = some (.bool false) := c1
        have hrw := h.row.set2 (i := F) (s := some row)
        have fw : Fr (fun k => (Value.slice (some ⟨b, 0, none⟩) l.length c).ownBlock = some k) w ((w.setCell ⟨b, F * 2, none⟩ (.string row)).setCell ⟨b, F * 2 + 1, none⟩ (.bool true)) := Fr.set (F := fun k => (Value.slice (some ⟨b, 0, none⟩) l.length c).ownBlock = some k) (Fr.set (F := fun k => (Value.slice (some ⟨b, 0, none⟩) l.length c).ownBlock = some k) (Fr.refl _ _) (p := ⟨b, F * 2, none⟩) (Or.inl rfl) _) (p := ⟨b, F * 2 + 1, none⟩) (Or.inl rfl) _
        have hP : PTo B w qb (.slice (some ⟨b, 0, none⟩) l.length c) (l.set F (some row)) ((w.setCell ⟨b, F * 2, none⟩ (.string row)).setCell ⟨b, F * 2 + 1, none⟩ (.bool true)) :=
          ⟨_, h.over hrw fw, ⟨fw.os, fw.tape, fw.output, fw.size, fun k hk hf => fw.block k hk (fun e => hf (Or.inr e))⟩, fun k e => Or.inl e⟩
        clear hE hN HE hT hwf hw c0 c1 hrw fw
        go_enter Try.func27, Try.ntmps27
        go_wp2_with fail
        refine cF.mono ?_
        rintro e w1 ⟨rfl, e1⟩
        rw [e1]
        clear e1 cF
        go_wp2_with fail
        refine cS.mono ?_
        rintro e w2 ⟨rfl, e2⟩
        rw [e2]
        clear e2 cS
        go_wp2_with fail
        go_ret2
        exact ⟨rfl, hP⟩
    · have hFe : first l = l.length := by omega
      have hne : ((l.length : Int) == (l.length : Int)) = true := by rw [beq_iff_eq]
      have hwf : withF l = l ++ [none] := by unfold withF; rw [if_neg hf]
      by_cases h5 : 512 < T + (row.size : Int) + 4
      · have hE : insE l row = 50 := by
          unfold insE
          rw [if_neg h4, if_pos]
          unfold room
          rw [hw, hwf]
          simp
          omega
        obtain ⟨rfl, rfl⟩ : K = 0 ∧ E = 50 := by
          have := HE.out
          unfold insR at this
          rw [hE, if_neg (by decide)] at this
          cases this
          exact ⟨rfl, rfl⟩
        have hN : insN l row = l := by unfold insN; rw [hE]; rfl
        have hP := PTo.same h
        rw [hN]
        obtain ⟨a, c, hv, hlc, _⟩ := h.row.len
        subst hv
        rw [hFe] at cF
        clear hE hN HE hT hwf hw hf hfl hFe
        go_enter Try.func27, Try.ntmps27
        go_wp2_with fail
        refine cF.mono ?_
        rintro e w1 ⟨rfl, e1⟩
        rw [e1]
        clear e1 cF
        go_wp2_with fail
        refine cS.mono ?_
        rintro e w2 ⟨rfl, e2⟩
        rw [e2]
        clear e2 cS
        go_wp2_with fail
        go_ret2
        exact ⟨rfl, hP⟩
      · have hE : insE l row = 0 := by
          unfold insE
          rw [if_neg h4, if_neg]
          unfold room
          rw [hw, hwf]
          simp
          omega
        obtain ⟨rfl, rfl⟩ : K = (l.length : Int) ∧ E = 0 := by
          have := HE.out
          unfold insR at this
          rw [if_pos hE] at this
          cases this
          exact ⟨by rw [hFe], rfl⟩
        have hN : insN l row = (l ++ [none]).set l.length (some row) := by unfold insN insL; rw [hE, if_pos rfl, hwf, hFe]
        rw [hN]
        rw [hFe] at cF
        have hrow := h.row
        have hq := h.qlt
        obtain ⟨a, c, hv, hlc, _⟩ := h.row.len
        subst hv
        clear hE hN HE hT hwf hw hf hfl hFe
        go_enter Try.func27, Try.ntmps27
        go_wp2_with fail
        refine cF.mono ?_
        rintro e w1 ⟨rfl, e1⟩
        rw [e1]
        clear e1 cF
        go_wp2_with fail
        refine cS.mono ?_
        rintro e w2 ⟨rfl, e2⟩
        rw [e2]
        clear e2 cS
        go_wp2_with (at_builtin; first
          | (refine wpList_append_rf _ rfl (.tmp 42) (.tmp 44) rfl w.heap.size _ l rfl (hr8.below' (below_alloc1 w8 _)) w8.heap.size none rfl (by simp; rfl) (by simp; rfl) (by omega) (by have := hb8.size; simp; omega) ?_; intro v9 w9 hr9 hf9 hn9; obtain ⟨b, c9, hv9, hc9, p9, k9, z9, y0, y1, g0, g1, hP⟩ := insert_new row h hBw hr8 hb8 hr9 hf9; subst hv9; clear hr9 hf9 hn9 hr8 hb8)
          | (refine wpList_copy_rf rfl (.tmp 37) (.tmp 41) rfl w w.heap.size rfl rfl B _ l rfl hrow (by omega) ?_; intro v8 w8 hr8 hb8))
        go_ret2
        exact ⟨rfl, hP⟩

end Go.Proofs.Ytfgblmbocchddaa

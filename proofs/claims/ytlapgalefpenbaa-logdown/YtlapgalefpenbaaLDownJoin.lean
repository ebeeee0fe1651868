/- LogDown: for every input the call returns true, and each argument reads afterwards as it did; no condition. -/
import Derived.Test.YtlapgalefpenbaaLRef
import Derived.Test.YtlapgalefpenbaaLSafe
import Derived.Test.YtlapgalefpenbaaLSteps
import Derived.Test.YtlapgalefpenbaaLFull
import Derived.BigQuiet
import Derived.Test.YtlapgalefpenbaaLTake
import Derived.ProofKit
import Derived.OpenShut
import Derived.ShutString
import Derived.ChangeOld
import Derived.Below

section
namespace Go.Proofs.Ytlapgalefpenbaa
open Go.RowKit

theorem bytes_ne {a b : ByteArray} (h : ¬ a = b) : (a.toList == b.toList) = false := by
  rw [beq_eq_false_iff_ne, ByteArray.toList_eq, ByteArray.toList_eq]
  intro q
  exact h (ByteArray.ext (Array.ext' q))

theorem ne_of_get {L M : List ByteArray} {i : Nat} {x y : ByteArray} (hx : L[i]? = some x) (hy : M[i]? = some y) (h : x ≠ y) : ¬ L = M := by
  rintro rfl
  rw [hx] at hy
  exact h (Option.some.inj hy)

set_option maxHeartbeats 1600000 in
set_option maxRecDepth 100000 in
theorem refSame_eq {w : World} {A B : Nat} {b1 b2 : ByteArray} {va vb : Value} {L M : List ByteArray} (ra : Row w A va L) (rb : Row w B vb M) (hl : L.length ≤ 1000000) (hlen : L.length = M.length) :
    Calls Try.prog 22 #[.agg #[.string b1, va], .agg #[.string b2, vb]] w fun e w' => e = .returned (.bool (decide (b1 = b2 ∧ L = M))) ∧ Below w.heap.size w w' := by
  obtain ⟨a1, c1, e1⟩ := ra.len
  obtain ⟨a2, c2, e2⟩ := rb.len
  rw [← hlen] at e2
  have ra2 := ra
  have rb2 := rb
  subst e1 e2
  obtain ⟨R, hR⟩ : ∃ R, R = decide (b1 = b2 ∧ L = M) := ⟨_, rfl⟩
  have HR : Hid (R = decide (b1 = b2 ∧ L = M)) := hR
  have HL : Hid (L.length = M.length) := hlen
  rw [← hR]
  clear hR hlen
  have bel := below2 (below_alloc1 w (.cells #[.string b1, .slice a1 L.length c1] 35)) (below_alloc1 (w.alloc (.cells #[.string b1, .slice a1 L.length c1] 35)) (.cells #[.string b2, .slice a2 L.length c2] 35))
  by_cases hb : b1 = b2
  · subst hb
    have HR2 : R = decide (L = M) := by have := HR.out; simpa using this
    clear HR
    have HR : Hid (R = decide (L = M)) := HR2
    clear HR2
    go_enter Try.func22, Try.ntmps22
    go_wp2_with fail
    go_loopw [5] (fun si wr => ∃ i : Nat, i ≤ L.length ∧ si = .int .i64 (i : Int) ∧ (∀ j, j < i → L[j]? = M[j]?) ∧ Below w.heap.size w wr ∧ wr.cell? ⟨w.heap.size, 1, none⟩ = some (.slice a1 L.length c1) ∧ wr.cell? ⟨w.heap.size + 1, 1, none⟩ = some (.slice a2 L.length c2)) (fun si _ => L.length - (intOf si).toNat)
    case atStart => exact ⟨0, Nat.zero_le _, rfl, (fun j h => by omega), bel, by go_simp, by go_simp⟩
    case round =>
      obtain ⟨i, hi, rfl, hp, hw, k1, k2⟩ := hrel
      by_cases hlt : i < L.length
      · have hlt2 : (i : Int) < (L.length : Int) := by omega
        have hx : L[i]? = some L[i] := by simp [hlt]
        generalize L[i] = x at hx
        have hlt3 : i < M.length := by have := HL.out; omega
        have hy : M[i]? = some M[i] := by simp [hlt3]
        generalize M[i] = y at hy
        obtain ⟨d1, o1, p1, e1, hc1, x1⟩ := ra2.cell hx
        injection e1 with q1 q2 q3
        subst q1 q3
        obtain ⟨d2, o2, p2, e2, hc2, x2⟩ := rb2.cell hy
        injection e2 with q1 q2 q3
        subst q1 q3
        have m1 : wr.cell? ⟨d1, o1 + i, none⟩ = some (.string x) := (hw.cell (p := ⟨d1, o1 + i, none⟩) (World.block_lt_of_cell? w _ x1)).trans x1
        have m2 : wr.cell? ⟨d2, o2 + i, none⟩ = some (.string y) := (hw.cell (p := ⟨d2, o2 + i, none⟩) (World.block_lt_of_cell? w _ x2)).trans x2
        have hpn : x = y → ∀ j, j < i + 1 → L[j]? = M[j]? := by
          intro hxy j hj
          by_cases h : j < i
          · exact hp j h
          · obtain rfl : j = i := by omega
            rw [hx, hy, hxy]
        have hne : x ≠ y → R = false := fun h => by rw [HR.out]; simp [ne_of_get hx hy h]
        clear hp x1 x2 hx hy ra2 rb2 q2 hlt3
        by_cases hxy : x = y
        · have HP : Hid (∀ j, j < i + 1 → L[j]? = M[j]?) := hpn hxy
          clear hpn hne
          subst hxy
          go_wp2_with fail
          go_region_held3 (fun V => V.cell? ⟨w.heap.size, 1, none⟩ = some (.slice (some ⟨d1, o1, none⟩) L.length c1) ∧ V.cell? ⟨w.heap.size + 1, 1, none⟩ = some (.slice (some ⟨d2, o2, none⟩) L.length c2) ∧ V.cell? ⟨d1, o1 + i, none⟩ = some (.string x) ∧ V.cell? ⟨d2, o2 + i, none⟩ = some (.string x)) (first | exact ⟨k1, k2, m1, m2⟩ | go_keep) (fail)
          all_goals go_wp2_with fail
          all_goals go_roundw
          case rel => exact ⟨i + 1, by omega, by go_num, HP.out, hw.drew, k1, k2⟩
          case measure => simp [intOf]; omega
        · have hxy2 := bytes_ne hxy
          have hRf := hne hxy
          subst hRf
          go_wp2_with fail
          go_region_held3 (fun V => V.cell? ⟨w.heap.size, 1, none⟩ = some (.slice (some ⟨d1, o1, none⟩) L.length c1) ∧ V.cell? ⟨w.heap.size + 1, 1, none⟩ = some (.slice (some ⟨d2, o2, none⟩) L.length c2) ∧ V.cell? ⟨d1, o1 + i, none⟩ = some (.string x) ∧ V.cell? ⟨d2, o2 + i, none⟩ = some (.string y)) (first | exact ⟨k1, k2, m1, m2⟩ | go_keep) (fail)
          all_goals go_wp2_with fail
          all_goals go_ret
          all_goals exact ⟨rfl, hw.drew⟩
      · obtain rfl : i = L.length := by omega
        have hRt : R = true := by
          rw [HR.out, decide_eq_true_eq]
          have := HL.out
          refine List.ext_getElem? fun j => ?_
          by_cases h : j < L.length
          · exact hp j h
          · rw [List.getElem?_eq_none (by omega), List.getElem?_eq_none (by omega)]
        subst hRt
        go_wp2_with fail
        go_ret
        exact ⟨rfl, hw⟩
  · have hb2 := bytes_ne hb
    have hRf : R = false := by rw [HR.out]; simp [hb]
    subst hRf
    go_enter Try.func22, Try.ntmps22
    go_wp2_with fail
    go_ret
    exact ⟨rfl, bel⟩

set_option maxHeartbeats 1600000 in
set_option maxRecDepth 100000 in
theorem refSame_any {w : World} {A B : Nat} {b1 b2 : ByteArray} {va vb : Value} {L M : List ByteArray} (ra : Row w A va L) (rb : Row w B vb M) (hl : M.length ≤ 1000000) :
    Calls Try.prog 22 #[.agg #[.string b1, va], .agg #[.string b2, vb]] w fun e w' => e = .returned (.bool (decide (b1 = b2 ∧ L = M))) ∧ Below w.heap.size w w' := by
  by_cases hlen : L.length = M.length
  · exact refSame_eq ra rb (by omega) hlen
  obtain ⟨a1, c1, e1⟩ := ra.len
  obtain ⟨a2, c2, e2⟩ := rb.len
  subst e1 e2
  have hRf : decide (b1 = b2 ∧ L = M) = false := by simp; rintro _ rfl; exact hlen rfl
  rw [hRf]
  have bel := below2 (below_alloc1 w (.cells #[.string b1, .slice a1 L.length c1] 35)) (below_alloc1 (w.alloc (.cells #[.string b1, .slice a1 L.length c1] 35)) (.cells #[.string b2, .slice a2 M.length c2] 35))
  have hlen2 : ((L.length : Int) == (M.length : Int)) = false := by rw [beq_eq_false_iff_ne]; omega
  by_cases hb : b1 = b2
  · subst hb
    go_enter Try.func22, Try.ntmps22
    go_wp2_with fail
    go_ret
    exact ⟨rfl, bel⟩
  · have hb2 := bytes_ne hb
    go_enter Try.func22, Try.ntmps22
    go_wp2_with fail
    go_ret
    exact ⟨rfl, bel⟩

end Go.Proofs.Ytlapgalefpenbaa
end

section
namespace Go.Proofs.Ytlapgalefpenbaa
open Go.RowKit

/-- append of a row to an empty list of the call's own. -/
theorem run_copy_row (w : World) (B H : Nat) (ty : TypeId) (hH : w.heap[H]? = some (.cells #[] 9 (0, 0))) (hB : B ≤ H) (C : Nat) (sv : Value) (L : List ByteArray) (hrow : Row w C sv L) (hlen : L.length ≤ 1000000) :
    ∃ v' w', (Builtin.append_ #[33, 33] ty #[.slice (some ⟨H, 0, none⟩) 0 0, sv]).run Try.prog w = .ok v' w' ∧ Row w' B v' L ∧ Fr (fun k => k = H) w w' ∧ (∀ k, v'.ownBlock = some k → k = H ∨ w.heap.size ≤ k) ∧ ∃ p q r, v' = .slice p q r := by
  obtain ⟨i0, hi, hz0, hz1, hz2⟩ := info_parts Try.info9
  have hlt : H < w.heap.size := (Array.getElem?_eq_some_iff.1 hH).1
  have hown : w.ownsRow B 9 1 (.slice (some ⟨H, 0, none⟩) 0 0) 0 [] := ⟨rfl, Or.inr ⟨H, 0, #[], rfl, hB, hH, Nat.le_refl _, Nat.zero_le _, rfl, rfl⟩⟩
  rcases hrow with ⟨rfl, rfl⟩ | ⟨b, o, cap, cur, rfl, hb, hh, hlc, hoc, hm, hg⟩
  · have hrun := run_append_owned_none (P := Try.prog) (w := w) B 33 ty 9 i0 1 Try.underlying33 hi _ 0 [] hown
    exact ⟨_, _, hrun, Row.of_own (L := []) hown, Fr.refl _ _, fun k e => Or.inl (by cases e; rfl), _, _, _, rfl⟩
  · have hcell : ∀ j, w.cell? ⟨b, j, none⟩ = cur[j]? := fun j => cell_of_row w b j cur _ _ hh
    obtain ⟨v', w', hr, ho, hgr, hk⟩ := run_append_own2 (P := Try.prog) w B 33 ty 9 i0 (.string ⟨#[]⟩) 1 16 Try.underlying33 hi hz0 hz1 hz2 rfl (by decide) _ 0 [] hown ⟨b, o, none⟩ L.length cap (L.map Value.string) (by simp)
      (by
        intro j u hu
        rw [Addr.add_lit, hcell]
        rw [List.getElem?_map, Option.map_eq_some_iff] at hu
        obtain ⟨y, hy, rfl⟩ := hu
        exact hg j y hy)
      (by intro u hu; simp only [List.mem_map] at hu; obtain ⟨y, _, rfl⟩ := hu; rfl) (by unfold maxLen; omega) (by omega) (by omega)
    refine ⟨v', w', hr, Row.of_own (by simpa using ho), ?_, fun k e => ?_, owns_slice ho⟩
    · have f := Fr.of_grown hgr
      exact ⟨f.os, f.tape, f.output, f.size, fun k hk hF => f.block k hk (fun e => hF (by cases e; rfl))⟩
    · rcases hk k e with q | q
      · cases q; exact Or.inl rfl
      · exact Or.inr q

theorem step_copy_row {ops : Array Oper} {o : Oper} {ac : Act} {w : World} {K : Act → World → Prop} {Q : Exit → Act → World → Prop} {E : Prop} (hgd : o.guard = none) (s x : Operand)
    (ho : o.op = .call { callee := .builtin .append, args := #[s, x], argTypes := #[33, 33] })
    (B H : Nat) (hs : ac.eval s = .slice (some ⟨H, 0, none⟩) 0 0) (hH : w.heap[H]? = some (.cells #[] 9 (0, 0))) (hB : B ≤ H) (C : Nat) (sv : Value) (L : List ByteArray) (hx : ac.eval x = sv) (hrow : Row w C sv L) (hlen : L.length ≤ 1000000)
    (h : ∀ v' w', Row w' B v' L → Fr (fun k => k = H) w w' → (∀ k, v'.ownBlock = some k → k = H ∨ w.heap.size ≤ k) → (∃ p q r, v' = .slice p q r) → K (ac.put o.dst v') w') :
    if Region.wanted o (yielded ops ac.tmps) = true then Oper.wp Try.prog o ac w K Q else E := by
  have hw : Region.wanted o (yielded ops ac.tmps) = true := by simp [Region.wanted, hgd]
  rw [if_pos hw]
  obtain ⟨v', w', hr, h2, h3, h4, h5⟩ := run_copy_row w B H o.type hH hB C sv L hrow hlen
  unfold Oper.wp execOp
  simp only [ho, resolve, invoke, builtin, Sem.run_bind, Sem.run_pure, Result.andThen_ok, List.map_toArray, List.map_cons, List.map_nil, hs, hx, hr]
  exact h v' w' h2 h3 h4 h5

theorem Fr.one {H : Nat} {w0 w w' : World} (f : Fr (fun k => k = H) w w') (h : Below w0.heap.size w0 w) (hH : w0.heap.size ≤ H) : Below w0.heap.size w0 w' := f.below h h.size (fun k e => by subst e; exact hH)
theorem Fr.rows {w0 w w' : World} {rv : Value} {L : List ByteArray} (f : Fr (fun k => rv.ownBlock = some k) w w') (h : Below w0.heap.size w0 w) (r : Row w w0.heap.size rv L) : Below w0.heap.size w0 w' := f.below h h.size (fun _ e => (r.blk e).1)

set_option maxHeartbeats 3200000 in
set_option maxRecDepth 100000 in
theorem refAppend_any {w : World} {C : Nat} {bs t : ByteArray} {sv : Value} {L : List ByteArray} (hrow : Row w C sv L) (hl : L.length ≤ 1000) :
    Calls Try.prog 16 #[.agg #[.string bs, sv], .string t] w fun e w' => ∃ v, e = .returned (.agg #[.string bs, v]) ∧ Row w' w.heap.size v (L ++ [t]) ∧ Below w.heap.size w w' := by
  obtain ⟨a1, c1, e1⟩ := hrow.len
  have hrow2 := hrow
  subst e1
  obtain ⟨W, hW⟩ : ∃ W, W = (w.alloc (.cells #[.string bs, .slice a1 L.length c1] 35)).alloc (.cells #[.string ⟨#[]⟩, .slice none 0 0] 35) := ⟨_, rfl⟩
  have bW : Below w.heap.size w W := by rw [hW]; exact below2 (below_alloc1 w _) (below_alloc1 _ _)
  have sW : W.heap.size = w.heap.size + 2 := by rw [hW]; simp
  have k0 : W.cell? ⟨w.heap.size, 0, none⟩ = some (.string bs) := by rw [hW]; go_simp
  have k1 : W.cell? ⟨w.heap.size, 1, none⟩ = some (.slice a1 L.length c1) := by rw [hW]; go_simp
  have e0 : W.heap[w.heap.size + 1]? = some (.cells #[.string ⟨#[]⟩, .slice none 0 0] 35 (0, 0)) := by
    have := heap_alloc_new (w.alloc (.cells #[.string bs, .slice a1 L.length c1] 35)) (.cells #[.string ⟨#[]⟩, .slice none 0 0] 35)
    rw [show (w.alloc (.cells #[.string bs, .slice a1 L.length c1] 35)).heap.size = w.heap.size + 1 by simp] at this
    rw [hW]
    exact this
  have HW : Hid (W = (w.alloc (.cells #[.string bs, .slice a1 L.length c1] 35)).alloc (.cells #[.string ⟨#[]⟩, .slice none 0 0] 35)) := hW
  go_enter Try.func16, Try.ntmps16
  go_wp2_with fail
  rw [← HW.out]
  clear hW HW hrow
  have bD : Below W.heap.size W W.drew := below_drew W
  have hWw : w.heap.size ≤ W.heap.size := by omega
  have kS : ∀ V, Below W.heap.size W V → V.cell? ⟨w.heap.size, 0, none⟩ = some (.string bs) ∧ V.cell? ⟨w.heap.size, 1, none⟩ = some (.slice a1 L.length c1) := fun V h => ⟨(h.cell (p := ⟨w.heap.size, 0, none⟩) (by show w.heap.size < _; omega)).trans k0, (h.cell (p := ⟨w.heap.size, 1, none⟩) (by show w.heap.size < _; omega)).trans k1⟩
  have kS2 : ∀ V x y, Below W.heap.size W V → ((V.setCell ⟨w.heap.size + 1, 0, none⟩ x).setCell ⟨w.heap.size + 1, 1, none⟩ y).cell? ⟨w.heap.size, 0, none⟩ = some (.string bs) ∧ ((V.setCell ⟨w.heap.size + 1, 0, none⟩ x).setCell ⟨w.heap.size + 1, 1, none⟩ y).cell? ⟨w.heap.size, 1, none⟩ = some (.slice a1 L.length c1) := fun V x y h => by
    have hb := (Below.heap_setCell (V.setCell ⟨w.heap.size + 1, 0, none⟩ x) ⟨w.heap.size + 1, 1, none⟩ y w.heap.size (by show w.heap.size ≠ w.heap.size + 1; omega)).trans (Below.heap_setCell V ⟨w.heap.size + 1, 0, none⟩ x w.heap.size (by show w.heap.size ≠ w.heap.size + 1; omega))
    exact ⟨(World.cell?_of_block (a := ⟨w.heap.size, 0, none⟩) hb).trans (kS V h).1, (World.cell?_of_block (a := ⟨w.heap.size, 1, none⟩) hb).trans (kS V h).2⟩
  have kW : ∀ V, Below W.heap.size W V → Hid (Row V C (.slice a1 L.length c1) L) := fun V h => by
    have b := below2 bW h
    exact hrow2.kept (fun k e => b.block k (hrow2.blk e).2)
  have hl1 : L.length ≤ 1000000 := by omega
  have fin8 : ∀ V H v8 w8, Below W.heap.size W V → W.heap.size ≤ H → Row w8 W.heap.size v8 L → Fr (fun k => k = H) V w8 → Hid (Below W.heap.size W w8) ∧ Hid (Row w8 W.heap.size v8 L) ∧ Hid (Row (w8.alloc (.cells #[.string t] 9)) W.heap.size v8 L) ∧ Hid (W.heap.size ≤ w8.heap.size) ∧ Hid (W.heap.size ≤ (w8.alloc (.cells #[.string t] 9)).heap.size) ∧ Hid (Below W.heap.size W (w8.alloc (.cells #[.string t] 9))) := fun V H v8 w8 h hH r f => by
    have b8 := f.one h hH
    have ba := below_alloc1 w8 (.cells #[.string t] 9)
    exact ⟨b8, r, r.kept (fun k e => ba.block k (r.blk e).2), b8.size, Nat.le_trans b8.size ba.size, below2 b8 ba⟩
  have fin9 : ∀ V v8 v9 w9, Below W.heap.size W V → Row V W.heap.size v8 L → Row w9 W.heap.size v9 (L ++ [t]) → Fr (fun k => v8.ownBlock = some k) V w9 →
      w9.cell? ⟨w.heap.size + 1, 0, none⟩ = some (.string ⟨#[]⟩) ∧ w9.cell? ⟨w.heap.size + 1, 1, none⟩ = some (.slice none 0 0) ∧ w9.frozen? ⟨w.heap.size + 1, 0, none⟩ = false ∧ w9.frozen? ⟨w.heap.size + 1, 1, none⟩ = false ∧ Hid (Below W.heap.size W w9) ∧
      Hid (Row ((w9.setCell ⟨w.heap.size + 1, 0, none⟩ (.string bs)).setCell ⟨w.heap.size + 1, 1, none⟩ v9) w.heap.size v9 (L ++ [t])) ∧ Hid (Below w.heap.size w ((w9.setCell ⟨w.heap.size + 1, 0, none⟩ (.string bs)).setCell ⟨w.heap.size + 1, 1, none⟩ v9)) ∧
      ((w9.setCell ⟨w.heap.size + 1, 0, none⟩ (.string bs)).setCell ⟨w.heap.size + 1, 1, none⟩ v9).cell? ⟨w.heap.size + 1, 0, none⟩ = some (.string bs) ∧ ((w9.setCell ⟨w.heap.size + 1, 0, none⟩ (.string bs)).setCell ⟨w.heap.size + 1, 1, none⟩ v9).cell? ⟨w.heap.size + 1, 1, none⟩ = some v9 := fun V v8 v9 w9 h r8 r9 f => by
    have b9 := f.rows h r8
    have e9 := (b9.block (w.heap.size + 1) (by omega)).trans e0
    have hne : ∀ k, v9.ownBlock = some k → k ≠ w.heap.size + 1 := fun k e => by have := (r9.blk e).1; omega
    have r10 : Row ((w9.setCell ⟨w.heap.size + 1, 0, none⟩ (.string bs)).setCell ⟨w.heap.size + 1, 1, none⟩ v9) w.heap.size v9 (L ++ [t]) := by
      have r := (r9.kept (w' := (w9.setCell ⟨w.heap.size + 1, 0, none⟩ (.string bs)).setCell ⟨w.heap.size + 1, 1, none⟩ v9) (fun k e => (Below.heap_setCell _ _ _ _ (hne k e)).trans (Below.heap_setCell _ _ _ _ (hne k e))))
      rcases r with r | ⟨bb, o, cap, cur, e, hb, r⟩
      · exact Or.inl r
      · exact Or.inr ⟨bb, o, cap, cur, e, Nat.le_trans hWw hb, r⟩
    have hs := heap_setCell_same _ (w.heap.size + 1) 1 _ _ v9 (heap_setCell_same w9 (w.heap.size + 1) 0 _ _ (.string bs) e9)
    have b10 : Below w.heap.size w w9 := below2 bW b9
    exact ⟨by simp [World.cell?, e9], by simp [World.cell?, e9], frozen_of_row w9 _ 0 _ _ e9, frozen_of_row w9 _ 1 _ _ e9, b9, r10, (b10.setCell (by show w.heap.size ≤ w.heap.size + 1; omega) _).setCell (by show w.heap.size ≤ w.heap.size + 1; omega) _, by simp [World.cell?, hs], by simp [World.cell?, hs]⟩
  have bA : Hid (Below W.heap.size W (W.drew.alloc (.cells #[] 9))) := below2 bD (below_alloc1 _ _)
  have bT : Hid (Below W.heap.size W (W.drew.alloc (.cells #[.string t] 9))) := below2 bD (below_alloc1 _ _)
  have bAT : Hid (Below W.heap.size W ((W.drew.alloc (.cells #[] 9)).alloc (.cells #[.string t] 9))) := below2 bA.out (below_alloc1 _ _)
  have bTA : Hid (Below W.heap.size W ((W.drew.alloc (.cells #[.string t] 9)).alloc (.cells #[] 9))) := below2 bT.out (below_alloc1 _ _)
  have hA : (W.drew.alloc (.cells #[] 9)).heap[W.heap.size]? = some (.cells #[] 9 (0, 0)) := heap_alloc_new W.drew _
  have hAT : Hid (((W.drew.alloc (.cells #[] 9)).alloc (.cells #[.string t] 9)).heap[W.heap.size]? = some (.cells #[] 9 (0, 0))) := ((below_alloc1 (W.drew.alloc (.cells #[] 9)) _).block W.heap.size (by rw [World.alloc]; simp)).trans hA
  have hTA : Hid (((W.drew.alloc (.cells #[.string t] 9)).alloc (.cells #[] 9)).heap[W.heap.size + 1]? = some (.cells #[] 9 (0, 0))) := by
    have := heap_alloc_new (W.drew.alloc (.cells #[.string t] 9)) (.cells #[] 9)
    rw [show (W.drew.alloc (.cells #[.string t] 9)).heap.size = W.heap.size + 1 by simp] at this
    exact this
  have HA : Hid ((W.drew.alloc (.cells #[] 9)).heap[W.heap.size]? = some (.cells #[] 9 (0, 0))) := hA
  clear hA
  go_region_held3 (fun V => V.cell? ⟨w.heap.size, 0, none⟩ = some (.string bs) ∧ V.cell? ⟨w.heap.size, 1, none⟩ = some (.slice a1 L.length c1))
    (first | exact kS2 _ _ _ b9.out | exact kS _ b9.out | exact kS _ b8a.out | exact kS _ b8.out | exact kS _ bAT.out | exact kS _ bTA.out | exact kS _ bA.out | exact kS _ bT.out | exact kS _ bD)
    (first
      | (have _ := b8; refine step_append_row rfl (.tmp 10) (.tmp 12) rfl W.heap.size _ L (by simp [Act.eval]) r8x.out _ t (by simp [Act.eval]) hc8.out hl1 h8x.out ?_; intro v9 w9 r9 f9 _ hv9; obtain ⟨p9, q9, s9, rfl⟩ := hv9; obtain ⟨y0, y1, z0, z1, b9, r10, b10, u0, u1⟩ := fin9 _ _ _ _ b8x.out r8x.out r9 f9)
      | (refine step_copy_row rfl (.tmp 7) (.tmp 9) rfl W.heap.size W.heap.size (by simp [Act.eval]) HA.out (Nat.le_refl _) C (.slice a1 L.length c1) L (by simp [Act.eval]) (kW _ bA.out).out hl1 ?_; intro v8 w8 r8 f8 g8 hv8; obtain ⟨p8, q8, s8, rfl⟩ := hv8; obtain ⟨b8, r8y, r8x, _, h8x, b8x⟩ := fin8 _ _ _ _ bA.out (Nat.le_refl _) r8 f8; have b8a := b8x; have hc8 : Hid ((w8.alloc (.cells #[.string t] 9)).cell? ⟨w8.heap.size, 0, none⟩ = some (.string t)) := (by show _ = _; simp))
      | (refine step_copy_row rfl (.tmp 7) (.tmp 9) rfl W.heap.size W.heap.size (by simp [Act.eval]) hAT.out (Nat.le_refl _) C (.slice a1 L.length c1) L (by simp [Act.eval]) (kW _ bAT.out).out hl1 ?_; intro v8 w8 r8 f8 g8 hv8; obtain ⟨p8, q8, s8, rfl⟩ := hv8; obtain ⟨b8, r8x, _, h8x, _, b8a⟩ := fin8 _ _ _ _ bAT.out (Nat.le_refl _) r8 f8; have b8x := b8; have hc8 : Hid (w8.cell? ⟨W.heap.size + 1, 0, none⟩ = some (.string t)) := (World.cell?_of_block (a := ⟨W.heap.size + 1, 0, none⟩) (f8.block (W.heap.size + 1) (by simp) (by omega))).trans (by simp))
      | (refine step_copy_row rfl (.tmp 7) (.tmp 9) rfl W.heap.size (W.heap.size + 1) (by simp [Act.eval]) hTA.out (Nat.le_succ _) C (.slice a1 L.length c1) L (by simp [Act.eval]) (kW _ bTA.out).out hl1 ?_; intro v8 w8 r8 f8 g8 hv8; obtain ⟨p8, q8, s8, rfl⟩ := hv8; obtain ⟨b8, r8x, _, h8x, _, b8a⟩ := fin8 _ _ _ _ bTA.out (Nat.le_succ _) r8 f8; have b8x := b8; have hc8 : Hid (w8.cell? ⟨W.heap.size, 0, none⟩ = some (.string t)) := (World.cell?_of_block (a := ⟨W.heap.size, 0, none⟩) (f8.block W.heap.size (by simp; omega) (by omega))).trans (by simp)))
  all_goals go_wp2_with fail
  all_goals refine bodyPost_ret (v := .agg #[.string bs, .slice p9 q9 s9]) ?_ rfl ⟨_, rfl, r10.out, b10.out⟩
  all_goals simp [results, Try.results16, go_sem, u0, u1]

end Go.Proofs.Ytlapgalefpenbaa
end

section
namespace Go.Proofs.Ytlapgalefpenbaa
open Go.RowKit

theorem Try.info35 : (Try.prog.info? 35).map (fun i => (i.zero, i.size, i.bytes)) = some (some (.agg #[.string ⟨#[]⟩, .slice none 0 0]), 2, 40) := by kernel_rfl

/-- A state, and the row that holds its records. -/
structure Sv where
  base : ByteArray
  v : Value
  recs : List ByteArray
def Sv.cells (s : Sv) : List Value := [.string s.base, s.v]
def svc : List Sv → List Value
  | [] => []
  | s :: r => s.cells ++ svc r

theorem svc_append (L M : List Sv) : svc (L ++ M) = svc L ++ svc M := by
  induction L with
  | nil => rfl
  | cons s r ih => simp [svc, ih]
theorem svc_length (L : List Sv) : (svc L).length = L.length * 2 := by
  induction L with
  | nil => rfl
  | cons s r ih => simp [svc, Sv.cells, ih]; omega
theorem svc_get (L : List Sv) (i : Nat) (s : Sv) (h : L[i]? = some s) : (svc L)[i * 2]? = some (.string s.base) ∧ (svc L)[i * 2 + 1]? = some s.v := by
  induction L generalizing i with
  | nil => simp at h
  | cons x r ih =>
    cases i with
    | zero => simp at h; subst h; exact ⟨rfl, rfl⟩
    | succ i =>
      simp at h
      rw [show (i + 1) * 2 = i * 2 + 1 + 1 by omega]
      exact ih i h

structure SRow (w : World) (B : Nat) (sv : Value) (L : List Sv) : Prop where
  own : w.ownsRow B 35 2 sv L.length (svc L)
  each : ∀ s ∈ L, Row w B s.v s.recs

/-- The blocks of the states. -/
def footS (nb : Nat) (nv sv : Value) (L : List Sv) (k : Nat) : Prop := k = nb ∨ nv.ownBlock = some k ∨ sv.ownBlock = some k ∨ ∃ s ∈ L, s.v.ownBlock = some k

/-- The state that is, and those that there were. -/
structure Nw (W w : World) (nb : Nat) (base : ByteArray) (nv : Value) (recs : List ByteArray) (sv : Value) (L : List Sv) : Prop where
  now : w.heap[nb]? = some (.cells #[.string base, nv] 35 (0, 0))
  nB : W.heap.size ≤ nb
  nrow : Row w W.heap.size nv recs
  sts : SRow w W.heap.size sv L
  ne : sv.ownBlock ≠ some nb

section
variable {W w w' : World} {B nb : Nat} {base : ByteArray} {nv sv : Value} {recs : List ByteArray} {L : List Sv}

theorem SRow.blk (h : SRow w B sv L) {k : Nat} (hk : sv.ownBlock = some k) : B ≤ k ∧ k < w.heap.size := h.own.lt k hk
theorem SRow.kept (h : SRow w B sv L) (h1 : ∀ k, sv.ownBlock = some k → w'.heap[k]? = w.heap[k]?) (h2 : ∀ s ∈ L, ∀ k, s.v.ownBlock = some k → w'.heap[k]? = w.heap[k]?) : SRow w' B sv L := by
  refine ⟨⟨h.own.1, ?_⟩, fun s hs => (h.each s hs).kept (h2 s hs)⟩
  rcases h.own.2 with e | ⟨g, cap, cur, rfl, a, b, c⟩
  · exact Or.inl e
  · exact Or.inr ⟨g, cap, cur, rfl, a, (h1 g rfl).trans b, c⟩
theorem SRow.len (h : SRow w B sv L) : ∃ a c, sv = .slice a L.length c ∧ L.length ≤ c := by
  rcases h.own.2 with ⟨rfl, e⟩ | ⟨g, cap, cur, rfl, _, _, c, _⟩
  · rw [e]; exact ⟨_, _, rfl, Nat.le_refl _⟩
  · exact ⟨_, _, rfl, c⟩
theorem SRow.cell (h : SRow w B sv L) {i : Nat} {s : Sv} (hs : L[i]? = some s) : ∃ b c, sv = .slice (some ⟨b, 0, none⟩) L.length c ∧ L.length ≤ c ∧ w.cell? ⟨b, i * 2, none⟩ = some (.string s.base) ∧ w.cell? ⟨b, i * 2 + 1, none⟩ = some s.v := by
  have hlt : i < L.length := (List.getElem?_eq_some_iff.1 hs).1
  have h0 := h.own
  rcases h.own.2 with ⟨_, e⟩ | ⟨g, cap, cur, rfl, _, _, c, _⟩
  · omega
  · obtain ⟨x, y⟩ := svc_get L i s hs
    exact ⟨g, cap, rfl, c, by rw [h0.cellAt _ (by omega)]; exact x, by rw [h0.cellAt _ (by omega)]; exact y⟩

theorem Nw.lt (h : Nw W w nb base nv recs sv L) : ∀ k, footS nb nv sv L k → W.heap.size ≤ k ∧ k < w.heap.size := by
  rintro k (rfl | r | r | ⟨s, hs, r⟩)
  · exact ⟨h.nB, (Array.getElem?_eq_some_iff.1 h.now).1⟩
  · exact h.nrow.blk r
  · exact h.sts.blk r
  · exact (h.sts.each s hs).blk r
theorem Nw.kept (h : Nw W w nb base nv recs sv L) (hk : ∀ k, footS nb nv sv L k → w'.heap[k]? = w.heap[k]?) : Nw W w' nb base nv recs sv L :=
  ⟨(hk nb (Or.inl rfl)).trans h.now, h.nB, h.nrow.kept (fun k r => hk k (Or.inr (Or.inl r))), h.sts.kept (fun k r => hk k (Or.inr (Or.inr (Or.inl r)))) (fun s hs k r => hk k (Or.inr (Or.inr (Or.inr ⟨s, hs, r⟩)))), h.ne⟩
theorem Nw.below (h : Nw W w nb base nv recs sv L) (hb : Below w.heap.size w w') : Nw W w' nb base nv recs sv L := h.kept (fun k r => hb.block k (h.lt k r).2)
theorem Nw.cells (h : Nw W w nb base nv recs sv L) : w.cell? ⟨nb, 0, none⟩ = some (.string base) ∧ w.cell? ⟨nb, 1, none⟩ = some nv ∧ w.frozen? ⟨nb, 0, none⟩ = false ∧ w.frozen? ⟨nb, 1, none⟩ = false :=
  ⟨by simp [World.cell?, h.now], by simp [World.cell?, h.now], frozen_of_row w nb 0 _ _ h.now, frozen_of_row w nb 1 _ _ h.now⟩

/-- A row's block holds texts. -/
theorem Row.ty {rv : Value} {T : List ByteArray} (h : Row w B rv T) {k : Nat} (hk : rv.ownBlock = some k) : ∃ cur, w.heap[k]? = some (.cells cur 9 (0, 0)) := by
  rcases h with ⟨rfl, _⟩ | ⟨b, o, cap, cur, rfl, _, h2, _⟩
  · cases hk
  · cases hk; exact ⟨cur, h2⟩
theorem SRow.ty (h : SRow w B sv L) {k : Nat} (hk : sv.ownBlock = some k) : ∃ cur, w.heap[k]? = some (.cells cur 35 (0, 0)) := by
  rcases h.own.2 with ⟨rfl, _⟩ | ⟨g, cap, cur, rfl, _, h2, _⟩
  · cases hk
  · cases hk; exact ⟨cur, h2⟩
theorem row_ne {rv : Value} {T : List ByteArray} (h : Row w B rv T) {k : Nat} (hk : rv.ownBlock = some k) {j : Nat} {cur : Array Value} (hj : w.heap[j]? = some (.cells cur 35 (0, 0))) : k ≠ j := by
  rintro rfl
  obtain ⟨c, hc⟩ := h.ty hk
  rw [hc] at hj
  injection hj with hj
  injection hj with _ hj _
  exact absurd hj (by decide)

/-- The state that is, written anew. -/
theorem Nw.put (h : Nw W w nb base nv recs sv L) (base' : ByteArray) (nv' : Value) (recs' : List ByteArray) (hr : Row w W.heap.size nv' recs') : Nw W ((w.setCell ⟨nb, 0, none⟩ (.string base')).setCell ⟨nb, 1, none⟩ nv') nb base' nv' recs' sv L ∧ Fr (fun k => some nb = some k) w ((w.setCell ⟨nb, 0, none⟩ (.string base')).setCell ⟨nb, 1, none⟩ nv') := by
  have hb : ∀ k, k ≠ nb → ((w.setCell ⟨nb, 0, none⟩ (.string base')).setCell ⟨nb, 1, none⟩ nv').heap[k]? = w.heap[k]? := fun k hk => (Below.heap_setCell _ _ _ _ hk).trans (Below.heap_setCell _ _ _ _ hk)
  refine ⟨⟨?_, h.nB, hr.kept (fun k r => hb k (row_ne hr r h.now)), h.sts.kept (fun k r => hb k (fun e => h.ne (e ▸ r))) (fun s hs k r => hb k (row_ne (h.sts.each s hs) r h.now)), h.ne⟩, ?_⟩
  · have := heap_setCell_same _ nb 1 _ _ nv' (heap_setCell_same w nb 0 _ _ (.string base') h.now)
    exact this
  · exact ((Fr.refl _ _).set (F := fun k => some nb = some k) (p := ⟨nb, 0, none⟩) (Or.inl rfl) _).set (p := ⟨nb, 1, none⟩) (Or.inl rfl) _

/-- The states that there were: but one. -/
theorem Nw.one (h : Nw W w nb base nv recs sv L) (hW : W.heap.size ≤ w.heap.size) : Nw W (w.alloc (.cells #[.string base, nv] 35)) nb base nv recs (.slice (some ⟨w.heap.size, 0, none⟩) 1 1) [⟨base, nv, recs⟩] := by
  have b := below_alloc1 w (.cells #[.string base, nv] 35)
  have h' := h.below b
  refine ⟨h'.now, h'.nB, h'.nrow, ⟨World.ownsRow_lit w #[.string base, nv] 1 hW (by unfold maxLen; omega) rfl, ?_⟩, ?_⟩
  · intro s hs
    simp at hs
    subst hs
    exact h'.nrow
  · intro e
    have e : w.heap.size = nb := Option.some.inj e
    have := (Array.getElem?_eq_some_iff.1 h.now).1
    omega

theorem Row.one {rv : Value} {T : List ByteArray} (h : Row w B rv T) : rv.oneCell' = true := by
  obtain ⟨a, c, rfl⟩ := h.len
  rfl

/-- One state more. -/
theorem wpList_append_state {ops : Array Oper} {rest : List Oper} {o : Oper} {ac : Act} {Q : Exit → Act → World → Prop} (w : World) (hgd : o.guard = none) (s x : Operand)
    (ho : o.op = .call { callee := .builtin .append, args := #[s, x], argTypes := #[37, 37] })
    (hs : ac.eval s = sv) (hrow : Nw W w nb base nv recs sv L) (a : Nat) (y : Sv) (hx : ac.eval x = .slice (some ⟨a, 0, none⟩) 1 1) (hy0 : w.cell? ⟨a, 0, none⟩ = some (.string y.base)) (hy1 : w.cell? ⟨a, 1, none⟩ = some y.v) (hyr : Row w W.heap.size y.v y.recs) (hlen : L.length ≤ 1000000) (hB : W.heap.size ≤ w.heap.size)
    (h : ∀ v' w', Nw W w' nb base nv recs v' (L ++ [y]) → Fr (fun k => sv.ownBlock = some k) w w' → (∀ k, footS nb nv v' (L ++ [y]) k → footS nb nv sv L k ∨ y.v.ownBlock = some k ∨ (w.heap.size ≤ k ∧ k < w'.heap.size)) → wpList Try.prog ops Q rest (ac.put o.dst v') w') : wpList Try.prog ops Q (o :: rest) ac w := by
  obtain ⟨i0, hi, hz0, hz1, hz2⟩ := info_parts Try.info35
  have hy1c := hyr.one
  obtain ⟨v', w', hr, h2, h3, h4⟩ := run_append_own2 (P := Try.prog) w W.heap.size 37 o.type 35 i0 (.agg #[.string ⟨#[]⟩, .slice none 0 0]) 2 40 Try.underlying37 hi hz0 hz1 hz2 rfl (by decide) sv L.length (svc L) hrow.sts.own ⟨a, 0, none⟩ 1 1 y.cells rfl
    (by
      intro j u hu
      rw [Addr.add_lit]
      match j, hu with
      | 0, hu => simp [Sv.cells] at hu; subst hu; exact hy0
      | 1, hu => simp [Sv.cells] at hu; subst hu; exact hy1)
    (by intro u hu; simp [Sv.cells] at hu; rcases hu with rfl | rfl; · rfl
        · exact hy1c) (by unfold maxLen; omega) (by omega) hB
  have f := Fr.of_grown h3
  have hsty : ∀ k, sv.ownBlock = some k → ∃ cur, w.heap[k]? = some (.cells cur 35 (0, 0)) := fun k e => hrow.sts.ty e
  have hkeep : ∀ (rv : Value) (T : List ByteArray), Row w W.heap.size rv T → Row w' W.heap.size rv T := fun rv T r => r.kept (fun k e => f.block k (r.blk e).2 (fun q => by obtain ⟨cur, hc⟩ := hsty k q; exact row_ne r e hc rfl))
  refine wpList_plain hgd fun K hK => ?_
  unfold Oper.wp execOp
  simp only [ho, resolve, invoke, builtin, Sem.run_bind, Sem.run_pure, Result.andThen_ok, List.map_toArray, List.map_cons, List.map_nil, hs, hx, hr]
  refine hK _ _ (h v' w' ⟨?_, hrow.nB, hkeep _ _ hrow.nrow, ⟨?_, ?_⟩, ?_⟩ f ?_)
  · exact (f.block nb (Array.getElem?_eq_some_iff.1 hrow.now).1 (fun e => hrow.ne e)).trans hrow.now
  · have : svc (L ++ [y]) = svc L ++ y.cells := by rw [svc_append]; simp [svc]
    rw [this, List.length_append]
    exact h2
  · intro z hz
    rcases List.mem_append.1 hz with q | q
    · exact hkeep _ _ (hrow.sts.each z q)
    · simp at q; subst q; exact hkeep _ _ hyr
  · intro e
    rcases h4 nb e with q | q
    · exact hrow.ne q
    · have := (Array.getElem?_eq_some_iff.1 hrow.now).1; omega
  · rintro k (r | r | r | ⟨z, hz, r⟩)
    · exact Or.inl (Or.inl r)
    · exact Or.inl (Or.inr (Or.inl r))
    · rcases h4 k r with q | q
      · exact Or.inl (Or.inr (Or.inr (Or.inl q)))
      · exact Or.inr (Or.inr ⟨q, (h2.lt k r).2⟩)
    · rcases List.mem_append.1 hz with q | q
      · exact Or.inl (Or.inr (Or.inr (Or.inr ⟨z, q, r⟩)))
      · simp at q; subst q; exact Or.inr (Or.inl r)

/-- A log and states beside it. -/
structure Pl (W w : World) (lb g gs n b : Nat) (lbase : ByteArray) (lrecs : List ByteArray) (Q : List ByteArray → Prop) (nb : Nat) (base : ByteArray) (nv : Value) (recs : List ByteArray) (sv : Value) (L : List Sv) (Y : Nat → Prop) : Prop where
  lw : Lw W w lb g gs n b lbase lrecs Q (fun k => footS nb nv sv L k ∨ Y k)
  nw : Nw W w nb base nv recs sv L

variable {lb g gs n b : Nat} {lbase : ByteArray} {lrecs : List ByteArray} {Q : List ByteArray → Prop} {Y : Nat → Prop}

theorem Pl.below (h : Pl W w lb g gs n b lbase lrecs Q nb base nv recs sv L Y) (hb : Below w.heap.size w w') : Pl W w' lb g gs n b lbase lrecs Q nb base nv recs sv L Y :=
  ⟨(h.lw.below hb).less (fun _ x => Or.inl x), h.nw.below hb⟩
theorem Pl.belowN (h : Pl W w lb g gs n b lbase lrecs Q nb base nv recs sv L Y) (hb : Below w.heap.size w w') : Pl W w' lb g gs n b lbase lrecs Q nb base nv recs sv L (fun k => Y k ∨ (w.heap.size ≤ k ∧ k < w'.heap.size)) :=
  ⟨(h.lw.below hb).less (fun _ x => by rcases x with x | x | x; · exact Or.inl (Or.inl x)
                                       · exact Or.inl (Or.inr x)
                                       · exact Or.inr x), h.nw.below hb⟩
theorem Pl.less {Z : Nat → Prop} (h : Pl W w lb g gs n b lbase lrecs Q nb base nv recs sv L Y) (hZ : ∀ k, Z k → Y k) : Pl W w lb g gs n b lbase lrecs Q nb base nv recs sv L Z :=
  ⟨h.lw.less (fun k x => x.elim Or.inl (fun y => Or.inr (hZ k y))), h.nw⟩
/-- A call of the log. -/
theorem Pl.did {lb' b' : Nat} {lbase' : ByteArray} {lrecs' : List ByteArray} {Q' : List ByteArray → Prop} (h : Pl W w lb g gs n b lbase lrecs Q nb base nv recs sv L Y) (l : Lw W w' lb' g gs n b' lbase' lrecs' Q' (fun k => footS nb nv sv L k ∨ Y k)) (k : Kept (fun k => footS nb nv sv L k ∨ Y k) w w') : Pl W w' lb' g gs n b' lbase' lrecs' Q' nb base nv recs sv L Y :=
  ⟨l, h.nw.kept (fun j r => k.2 j (Or.inl r))⟩
/-- The state that is, written anew. -/
theorem Pl.put (h : Pl W w lb g gs n b lbase lrecs Q nb base nv recs sv L Y) (base' : ByteArray) (nv' : Value) (recs' : List ByteArray) (hr : Row w W.heap.size nv' recs') (hY : ∀ k, nv'.ownBlock = some k → footS nb nv sv L k ∨ Y k) :
    Pl W ((w.setCell ⟨nb, 0, none⟩ (.string base')).setCell ⟨nb, 1, none⟩ nv') lb g gs n b lbase lrecs Q nb base' nv' recs' sv L Y := by
  obtain ⟨p, f⟩ := h.nw.put base' nv' recs' hr
  refine ⟨(h.lw.fr f (fun k e => Or.inl (Or.inl (Option.some.inj e).symm)) (fun k e => by have := h.nw.nB; have := Option.some.inj e; omega)).less ?_, p⟩
  rintro k ((r | r | r | r) | r)
  · exact Or.inl (Or.inl (Or.inl r))
  · exact Or.inl (hY k r)
  · exact Or.inl (Or.inl (Or.inr (Or.inr (Or.inl r))))
  · exact Or.inl (Or.inl (Or.inr (Or.inr (Or.inr r))))
  · exact Or.inl (Or.inr r)
/-- But one state. -/
theorem Pl.one (h : Pl W w lb g gs n b lbase lrecs Q nb base nv recs sv L Y) : Pl W (w.alloc (.cells #[.string base, nv] 35)) lb g gs n b lbase lrecs Q nb base nv recs (.slice (some ⟨w.heap.size, 0, none⟩) 1 1) [⟨base, nv, recs⟩] Y := by
  refine ⟨(h.lw.below (below_alloc1 w _)).less ?_, h.nw.one h.lw.bel.size⟩
  rintro k ((r | r | r | ⟨s, hs, r⟩) | r)
  · exact Or.inl (Or.inl (Or.inl r))
  · exact Or.inl (Or.inl (Or.inr (Or.inl r)))
  · have r : w.heap.size = k := Option.some.inj r
    exact Or.inr ⟨by omega, by simp; omega⟩
  · simp at hs
    subst hs
    exact Or.inl (Or.inl (Or.inr (Or.inl r)))
  · exact Or.inl (Or.inr r)
/-- One state more. -/
theorem Pl.push {sv' : Value} {y : Sv} (h : Pl W w lb g gs n b lbase lrecs Q nb base nv recs sv L Y) (p : Nw W w' nb base nv recs sv' (L ++ [y])) (f : Fr (fun k => sv.ownBlock = some k) w w') (hf : ∀ k, footS nb nv sv' (L ++ [y]) k → footS nb nv sv L k ∨ y.v.ownBlock = some k ∨ (w.heap.size ≤ k ∧ k < w'.heap.size)) (hy : ∀ k, y.v.ownBlock = some k → footS nb nv sv L k ∨ Y k) : Pl W w' lb g gs n b lbase lrecs Q nb base nv recs sv' (L ++ [y]) Y := by
  refine ⟨(h.lw.fr f (fun k e => Or.inl (Or.inr (Or.inr (Or.inl e)))) (fun k e => (h.nw.sts.blk e).1)).less ?_, p⟩
  rintro k (r | r)
  · rcases hf k r with q | q | q
    · exact Or.inl (Or.inl q)
    · exact Or.inl (hy k q)
    · exact Or.inr q
  · exact Or.inl (Or.inr r)
end

end Go.Proofs.Ytlapgalefpenbaa
end

section
namespace Go.Proofs.Ytlapgalefpenbaa
open Go.RowKit

def fairL (L : List St) : Prop := (∀ s ∈ L, s.text.size ≤ 20000 ∧ s.keep.L.length ≤ 1000) ∧ L.length ≤ 100

set_option maxHeartbeats 1600000 in
set_option maxRecDepth 100000 in
theorem fair_any (a : Option Addr) (L : List St) (c : Nat) (w : World) (hL : SlG w a 3 St.cells L) (hc : L.length ≤ c) (hcm : c ≤ maxLen) (R : Bool) (HR : Hid (R = true ↔ fairL L)) :
    Calls Try.prog 9 #[.slice a L.length c] w fun e w' => e = .returned (.bool R) ∧ Below w.heap.size w w' := by
  have hcm2 : (L.length : Int) ≤ 9223372036854775807 := by unfold maxLen at hcm; omega
  go_enter Try.func9, Try.ntmps9
  go_wp2_with fail
  go_loopw [3] (fun si wr => ∃ i : Nat, i ≤ L.length ∧ si = .int .i64 (i : Int) ∧ (∀ s ∈ L.take i, s.text.size ≤ 20000 ∧ s.keep.L.length ≤ 1000) ∧ Below w.heap.size w wr) (fun si _ => L.length - (intOf si).toNat)
  case atStart => exact ⟨0, Nat.zero_le _, rfl, by simp, Below.refl _ _⟩
  case round =>
    obtain ⟨i, hi, rfl, hp, hw⟩ := hrel
    by_cases hlt : i < L.length
    · have hlt2 : (i : Int) < (L.length : Int) := by omega
      have hx : L[i]? = some L[i] := by simp [hlt]
      generalize L[i] = x at hx
      have hmem := List.mem_of_getElem? hx
      have htk : L.take (i + 1) = L.take i ++ [x] := by rw [List.take_add_one, hx]; rfl
      rcases hL with hL | ⟨bl, off, rfl, hbl, hrd⟩
      · rw [hL] at hlt; simp at hlt
      have k1 : wr.cell? ⟨bl, off + i * 3 + 1, none⟩ = some (.string x.text) := (hw.cell (p := ⟨bl, off + i * 3 + 1, none⟩) hbl).trans (hrd i x hx 1 _ rfl)
      have k2 : wr.cell? ⟨bl, off + i * 3 + 2, none⟩ = some (.slice x.keep.a x.keep.L.length x.keep.c) := (hw.cell (p := ⟨bl, off + i * 3 + 2, none⟩) hbl).trans (hrd i x hx 2 _ rfl)
      by_cases h1 : x.text.size ≤ 20000
      · have h12 : ¬ (20000 : Int) < (x.text.size : Int) := by omega
        by_cases h2 : x.keep.L.length ≤ 1000
        · have h22 : ¬ (1000 : Int) < (x.keep.L.length : Int) := by omega
          go_wp2_with fail
          go_roundw
          case rel =>
            refine ⟨i + 1, by omega, by go_num, fun s hs => ?_, hw⟩
            rw [htk] at hs
            rcases List.mem_append.1 hs with q | q
            · exact hp s q
            · simp at q; subst q; exact ⟨h1, h2⟩
          case measure => simp [intOf]; omega
        · have h22 : (1000 : Int) < (x.keep.L.length : Int) := by omega
          obtain rfl : R = false := by cases R with
            | false => rfl
            | true => exact absurd ((HR.out.1 rfl).1 x hmem).2 h2
          go_wp2_with fail
          go_ret
          exact ⟨rfl, hw⟩
      · have h12 : (20000 : Int) < (x.text.size : Int) := by omega
        obtain rfl : R = false := by cases R with
          | false => rfl
          | true => exact absurd ((HR.out.1 rfl).1 x hmem).1 h1
        go_wp2_with fail
        go_ret
        exact ⟨rfl, hw⟩
    · obtain rfl : i = L.length := by omega
      rw [List.take_length] at hp
      have HRe : Hid (decide ((L.length : Int) ≤ 100) = R) := by
        show _ = _
        cases R with
        | false =>
          rw [decide_eq_false_iff_not]
          intro h
          exact absurd (HR.out.2 ⟨hp, by omega⟩) (by decide)
        | true =>
          rw [decide_eq_true_eq]
          have := (HR.out.1 rfl).2
          omega
      go_wp2_with fail
      go_ret
      exact ⟨by rw [← HRe.out]; rfl, hw⟩

end Go.Proofs.Ytlapgalefpenbaa
end

section
namespace Go.Proofs.Ytlapgalefpenbaa
open Go.RowKit

def JoinQ (A : Act) (R : World → Prop) : Exit → Act → World → Prop
  | .normal, a, V => a = A ∧ R V
  | _, _, _ => False
def JoinV (A : Value → Act) (R : World → Prop) : Exit → Act → World → Prop
  | .normal, a, V => ∃ v, a = A v ∧ R V
  | _, _, _ => False

theorem wp_join {P : Program} {c : Code} {Q : Exit → Act → World → Prop} {act : Act} {w : World} (A : Act) (R : World → Prop) (h : c.wp P (JoinQ A R) act w) (hk : ∀ V, R V → Q .normal A V) : c.wp P Q act w := by
  refine Code.wp_mono (fun e a V h => ?_) h
  cases e with
  | normal => obtain ⟨rfl, r⟩ := h; exact hk V r
  | _ => exact (h : False).elim
theorem wp_joinV {P : Program} {c : Code} {Q : Exit → Act → World → Prop} {act : Act} {w : World} (A : Value → Act) (R : World → Prop) (h : c.wp P (JoinV A R) act w) (hk : ∀ v V, R V → Q .normal (A v) V) : c.wp P Q act w := by
  refine Code.wp_mono (fun e a V h => ?_) h
  cases e with
  | normal => obtain ⟨v, rfl, r⟩ := h; exact hk v V r
  | _ => exact (h : False).elim

theorem modR_any (k : Int) (n : Nat) (_h0 : -9223372036854775808 ≤ k) (_h1 : k ≤ 9223372036854775807) (hn : 1 ≤ n) (hn2 : n ≤ 100000) :
    ∃ r : Nat, r < n ∧ ∀ w, Calls Try.prog 8 #[.int .i64 k, .int .i64 (n : Int)] w fun e w' => e = .returned (.int .i64 (r : Int)) ∧ w' = w := by
  obtain ⟨r, hr, he, b1, b2⟩ := tmod_mod k n hn
  refine ⟨r, hr, fun w => ?_⟩
  have hz : ((n : Int) == 0) = false := by rw [beq_eq_false_iff_ne]; omega
  have hm1 : ((n : Int) == -1) = false := by rw [beq_eq_false_iff_ne]; omega
  have hlt : decide ((n : Int) < 1) = false := by simp; omega

  generalize hq : k.tmod (n : Int) = q at *
  go_enter Try.func8, Try.ntmps8
  go_wp2_with fail
  go_ret
  exact ⟨rfl, rfl⟩

theorem refSectors_at (k m : Nat) (hk : k ≤ 1000000000) (hm : m = k / 500 + 1) (w : World) : Calls Try.prog 14 #[.int .i64 (k : Int)] w fun e w' => e = .returned (.int .i64 (m : Int)) ∧ Below w.heap.size w w' :=
  (refSectors_any k m hk hm w).mono (by rintro e w' ⟨rfl, rfl⟩; exact ⟨rfl, Below.refl _ _⟩)

theorem refSame_true {w : World} {A B : Nat} {b1 : ByteArray} {va vb : Value} {L : List ByteArray} (ra : Row w A va L) (rb : Row w B vb L) (hl : L.length ≤ 1000000) :
    Calls Try.prog 22 #[.agg #[.string b1, va], .agg #[.string b1, vb]] w fun e w' => e = .returned (.bool true) ∧ Below w.heap.size w w' :=
  (refSame_any ra rb hl).mono (by rintro e w' ⟨rfl, b⟩; exact ⟨by simp, b⟩)

section
variable {W w w' : World} {lb g gs n b nb : Nat} {lbase base : ByteArray} {lrecs recs : List ByteArray} {Q : List ByteArray → Prop} {nv sv : Value} {L : List Sv} {Y : Nat → Prop}

/-- The log's texts are few and short. -/
theorem Lw.few {X : Nat → Prop} (h : Lw W w lb g gs n b lbase lrecs Q X) (hn : n ≤ 64) : lbase.size ≤ 1000000 ∧ lrecs.length ≤ 1000 ∧ ∀ t ∈ lrecs, t.size ≤ 1000000 := by
  have hr := h.room
  have hA : areaN n ≤ 30 := by unfold areaN; omega
  have hl := recs_le lbase lrecs
  refine ⟨?_, by omega, fun t ht => ?_⟩
  · have := secs_mem (t := lbase) (T := lbase :: lrecs) (List.mem_cons_self ..)
    unfold secs at this
    omega
  · have := secs_mem (t := t) (T := lbase :: lrecs) (List.mem_cons_of_mem _ ht)
    unfold secs at this
    omega

/-- A state that nothing was added to. -/
theorem Pl.init (l : Lw W w lb g gs n b base [] Q (fun _ => False)) : Pl W (w.alloc (.cells #[.string base, .slice none 0 0] 35)) lb g gs n b base [] Q w.heap.size base (.slice none 0 0) [] (.slice none 0 0) [] (fun _ => False) := by
  refine ⟨(l.below (below_alloc1 w _)).less ?_, ⟨heap_alloc_new w _, l.bel.size, Or.inl ⟨rfl, rfl⟩, ⟨⟨rfl, Or.inl ⟨rfl, rfl⟩⟩, by simp⟩, by simp [Value.ownBlock]⟩⟩
  rintro k ((r | r | r | ⟨s, hs, r⟩) | r)
  · exact Or.inr ⟨by omega, by simp; omega⟩
  · cases r
  · cases r
  · cases hs
  · cases r
end

end Go.Proofs.Ytlapgalefpenbaa
end

section
namespace Go.Proofs.Ytlapgalefpenbaa
open Go.RowKit

theorem JoinV.mk {A : Value → Act} {R : World → Prop} {a : Act} {V : World} (v : Value) (h : a = A v) (r : R V) : JoinV A R .normal a V := ⟨v, h, r⟩
theorem JoinQ.mk {A : Act} {R : World → Prop} {a : Act} {V : World} (h : a = A) (r : R V) : JoinQ A R .normal a V := ⟨h, r⟩
theorem Kept.trans {X : Nat → Prop} {w w' w2 : World} (a : Kept X w w') (b : Kept X w' w2) : Kept X w w2 := ⟨Nat.le_trans a.1 b.1, fun k x => (b.2 k x).trans (a.2 k x)⟩
theorem Row.mono {w : World} {A B : Nat} {rv : Value} {L : List ByteArray} (h : Row w A rv L) (hB : B ≤ A) : Row w B rv L := by
  rcases h with r | ⟨bb, o, cap, cur, e, hb, r⟩
  · exact Or.inl r
  · exact Or.inr ⟨bb, o, cap, cur, e, Nat.le_trans hB hb, r⟩
/-- Was a state found among the first k? -/
def FndB (f : Bool) (M : List Sv) (k : Nat) (T : List ByteArray) : Prop := f = true ↔ ∃ j s, j < k ∧ M[j]? = some s ∧ T = s.base :: s.recs
theorem FndB.start {M : List Sv} {T : List ByteArray} : FndB false M 0 T := ⟨fun h => (by cases h), fun ⟨_, _, h, _⟩ => (by omega)⟩
theorem FndB.more {M : List Sv} {k : Nat} {T : List ByteArray} (h : FndB true M k T) : FndB true M (k + 1) T := by
  refine ⟨fun _ => ?_, fun _ => rfl⟩
  obtain ⟨j, s, a, b⟩ := h.1 rfl
  exact ⟨j, s, by omega, b⟩
theorem belowDrewN (w : World) (k : Nat) : Below w.heap.size w (w.drewN k) := ⟨rfl, rfl, rfl, Nat.le_refl _, fun _ _ => rfl⟩

end Go.Proofs.Ytlapgalefpenbaa
end

section
namespace Go.Proofs.Ytlapgalefpenbaa
open Go.RowKit

/-- What a crash may leave. -/
def After (A : Nat) (D : DS) (Q : List ByteArray → Prop) : Prop := ∀ L, ∃ R, Solid A (D.crashed L) R ∧ Q R.T

/-- A log, fit or not, its state told, beside all that was there. Q: what a crash may leave, its own state aside where it is fit. -/
def Lx (W w : World) (lb g gs n b : Nat) (base : ByteArray) (recs : List ByteArray) (u : Bool) (Q : List ByteArray → Prop) (X : Nat → Prop) : Prop :=
  ∃ hv rv D S, Lg W.heap.size w lb g gs hv rv D S ∧ Below W.heap.size W w ∧ S.base = base ∧ S.recs = recs ∧ S.unfit = u ∧ Inv b D ∧ D.n = n ∧ 8 ≤ n ∧ secsL (base :: recs) ≤ areaN n ∧ (u = false → Fit (areaN n) D ⟨S.slot, S.area, S.used, base :: recs⟩ Q) ∧ (u = true → After (areaN n) D Q) ∧ Aside2 w (footL lb g gs hv rv) X

section
variable {W w w' : World} {lb g gs n b : Nat} {base : ByteArray} {recs : List ByteArray} {u : Bool} {Q : List ByteArray → Prop} {X : Nat → Prop}

theorem Lx.bel (h : Lx W w lb g gs n b base recs u Q X) : Below W.heap.size W w := by
  obtain ⟨hv, rv, D, S, _, h, _⟩ := h
  exact h
theorem Lx.below (h : Lx W w lb g gs n b base recs u Q X) (hb : Below w.heap.size w w') : Lx W w' lb g gs n b base recs u Q (fun k => X k ∨ (w.heap.size ≤ k ∧ k < w'.heap.size)) := by
  obtain ⟨hv, rv, D, S, l, h1, h2, h3, h4, h5, h6, h7, h8, h9, h10, h11⟩ := h
  exact ⟨hv, rv, D, S, l.below hb, below2 h1 hb, h2, h3, h4, h5, h6, h7, h8, h9, h10, h11.below l.lt hb⟩
theorem Lx.less {Y : Nat → Prop} (h : Lx W w lb g gs n b base recs u Q X) (hY : ∀ k, Y k → X k) : Lx W w lb g gs n b base recs u Q Y := by
  obtain ⟨hv, rv, D, S, l, h1, h2, h3, h4, h5, h6, h7, h8, h9, h10, h11⟩ := h
  exact ⟨hv, rv, D, S, l, h1, h2, h3, h4, h5, h6, h7, h8, h9, h10, fun k y => h11 k (hY k y)⟩
theorem Lx.fr {row : Option Nat} (h : Lx W w lb g gs n b base recs u Q X) (hg : Fr (fun k => row = some k) w w') (hX : ∀ k, row = some k → X k) (hW : ∀ k, row = some k → W.heap.size ≤ k) :
    Lx W w' lb g gs n b base recs u Q (fun k => X k ∨ (w.heap.size ≤ k ∧ k < w'.heap.size)) := by
  obtain ⟨hv, rv, D, S, l, h1, h2, h3, h4, h5, h6, h7, h8, h9, h10, h11⟩ := h
  refine ⟨hv, rv, D, S, l.kept (fun k r => hg.block k (l.lt k r) (fun e => (h11 k (hX k e)).2 r)), hg.below h1 h1.size hW, h2, h3, h4, h5, h6, h7, h8, h9, h10, ?_⟩
  rintro k (x | ⟨x, y⟩)
  · exact ⟨Nat.lt_of_lt_of_le (h11 k x).1 hg.size, (h11 k x).2⟩
  · exact ⟨y, fun r => by have := l.lt k r; omega⟩
theorem Lx.of {hv rv : Value} {D : DS} {S : LS} (l : Lg W.heap.size w lb g gs hv rv D S) (ha : Aside2 w (footL lb g gs hv rv) X) (hW : Below W.heap.size W w) {D' : DS} {S' : LS} (z : LTo W.heap.size w lb g gs hv rv D' S' w') (h2 : S'.base = base) (h3 : S'.recs = recs) (h4 : S'.unfit = u) (h5 : Inv b D') (h6 : D'.n = n) (h7 : 8 ≤ n) (h8 : secsL (base :: recs) ≤ areaN n) (h9 : u = false → Fit (areaN n) D' ⟨S'.slot, S'.area, S'.used, base :: recs⟩ Q) (h10 : u = true → After (areaN n) D' Q) :
    Lx W w' lb g gs n b base recs u Q X ∧ Kept X w w' := by
  obtain ⟨hv', rv', l', f, gr⟩ := z
  refine ⟨⟨hv', rv', D', S', l', ?_, h2, h3, h4, h5, h6, h7, h8, h9, h10, fun k x => ⟨Nat.lt_of_lt_of_le (ha k x).1 f.size, not_footL gr (ha k x).1 (ha k x).2⟩⟩, f.size, fun k x => f.block k (ha k x).1 (ha k x).2⟩
  exact f.below hW hW.size (fun k hk => l.from k hk)

/-- A calm log is one. -/
theorem Lw.lx (h : Lw W w lb g gs n b base recs Q X) : Lx W w lb g gs n b base recs false Q X := by
  have hr := h.room
  obtain ⟨hv, rv, D, S, l, h1, h2, h3, h4, h5, h6, h7, h8, h9, h10⟩ := h
  exact ⟨hv, rv, D, S, l, h1, h2, h3, h4, h5, h7, h8, hr.1, fun _ => h9, (fun h => by cases h), h10⟩

theorem Lx.room (h : Lx W w lb g gs n b base recs u Q X) : secsL (base :: recs) ≤ areaN n ∧ 8 ≤ n ∧ n ≤ 8192 := by
  obtain ⟨hv, rv, D, S, l, h1, rfl, rfl, h4, h5, rfl, h7, h8, _⟩ := h
  exact ⟨h8, h7, h5.n.2⟩
theorem Lx.few (h : Lx W w lb g gs n b base recs u Q X) (hn : n ≤ 64) : base.size ≤ 1000000 ∧ recs.length ≤ 1000 ∧ ∀ t ∈ recs, t.size ≤ 1000000 := by
  have hr := h.room
  have hA : areaN n ≤ 30 := by unfold areaN; omega
  have hl := recs_le base recs
  refine ⟨?_, by omega, fun t ht => ?_⟩
  · have := secs_mem (t := base) (T := base :: recs) (List.mem_cons_self ..)
    unfold secs at this
    omega
  · have := secs_mem (t := t) (T := base :: recs) (List.mem_cons_of_mem _ ht)
    unfold secs at this
    omega

/-- Fit is of the sectors alone. -/
theorem Fit.same {A : Nat} {D D' : DS} {P : PS} {S : List ByteArray → Prop} (h : Fit A D P S) (h1 : D'.held = D.held) (h2 : D'.safe = D.safe) : Fit A D' P S := by
  rcases h with h | ⟨Q, hS, h⟩
  · exact Or.inl ⟨by rw [h1]; exact h.held, by rw [h2]; exact h.safe, by rw [h2]; exact h.mark⟩
  · exact Or.inr ⟨Q, hS, ⟨by rw [h1]; exact h.held, by rw [h2]; exact h.new, by rw [h2]; exact h.old, by rw [h2]; exact h.mark⟩⟩

theorem err_some {D : DS} {l : List DOp} {e : Int} (h : (drun D l).1 = some e) : errN (drun D l).1 = e ∧ (e = 41 ∨ e = 42) := ⟨by rw [h]; rfl, drun_err D l e h⟩

/-- Append where there is room: done, or cut off. -/
theorem fault_append (h : Lx W w lb g gs n b base recs false Q X) (t : ByteArray) (hr : secsL (base :: recs) + secs t ≤ areaN n) (hb : b + secs t + 4 ≤ 100000) :
    Calls Try.prog 15 #[.pointer (some ⟨lb, 0, none⟩), .string t] w fun e w' => ∃ E, e = .returned (.int .i64 E) ∧ Kept X w w' ∧ ((E = 0 ∧ Lx W w' lb g gs n (b + (secs t + 4)) base (recs ++ [t]) false (fun T => T = base :: recs) X) ∨ ((E = 41 ∨ E = 42) ∧ Lx W w' lb g gs n (b + (secs t + 4)) base recs true (fun T => T = base :: recs ∨ Q T) X)) := by
  obtain ⟨hv, rv, D, S, l, h1, rfl, rfl, h4, h5, rfl, h8, hro, h9, _, h10⟩ := h
  have h9 := h9 rfl
  have hP := h9.facts h5
  have hn := h5.n.2
  have hu : S.used = secsL (S.base :: S.recs) := hP.used
  have hA4 := areaN_le h8
  have hrl := recs_le S.base S.recs
  have hps := hP.slot
  simp only at hps
  have ha : S.area ≤ 1 := hP.area
  have hs2 : S.slot % 2 + 1 = 1 ∨ S.slot % 2 + 1 = 2 := by omega
  have m := store_math h5 h9 hA4 S.area S.used t (S.base :: S.recs) (by omega) (Or.inl ⟨rfl, rfl, rfl⟩)
  have hiv := h5.run _ (script_ok (areaN D.n) (S.slot % 2 + 1) S.area S.used t D.n hs2 ha (by omega) hA4)
  rw [script_len] at hiv
  have c := append_any l h5 h1.size h4 h8 hn (areaN D.n) rfl t (by omega) (by omega) (by omega) (S.slot % 2 + 1) (S.used + secs t) rfl ha rfl _ rfl
  refine c.mono ?_
  rintro e w' ⟨rfl, z⟩
  cases hc : (drun D (script (areaN D.n) (S.slot % 2 + 1) S.area S.used t)).1 with
  | none =>
    rw [hc] at z
    have r := Lx.of (u := false) (Q := fun T => T = S.base :: S.recs) l h10 h1 z rfl rfl h4 hiv.1 hiv.2 h8 (by show secsL (S.base :: (S.recs ++ [t])) ≤ _; rw [← List.cons_append, secsL_append]; simpa [secsL] using hr) (fun _ => Or.inr ⟨_, rfl, m.1 hc⟩) (fun h => by cases h)
    exact ⟨0, rfl, r.2, Or.inl ⟨rfl, r.1⟩⟩
  | some x =>
    rw [hc] at z
    have r := Lx.of (u := true) (Q := fun T => T = S.base :: S.recs ∨ Q T) l h10 h1 z rfl rfl rfl hiv.1 hiv.2 h8 hro (fun h => by cases h) (fun _ => m.2 x hc)
    exact ⟨x, rfl, r.2, Or.inr ⟨(err_some hc).2, r.1⟩⟩

/-- Replace where there is room: done, or cut off. -/
theorem fault_replace (h : Lx W w lb g gs n b base recs false Q X) (t : ByteArray) (hr : secs t ≤ areaN n) (hb : b + secs t + 4 ≤ 100000) :
    Calls Try.prog 18 #[.pointer (some ⟨lb, 0, none⟩), .string t] w fun e w' => ∃ E, e = .returned (.int .i64 E) ∧ Kept X w w' ∧ ((E = 0 ∧ Lx W w' lb g gs n (b + (secs t + 4)) t [] false (fun T => T = base :: recs) X) ∨ ((E = 41 ∨ E = 42) ∧ Lx W w' lb g gs n (b + (secs t + 4)) base recs true (fun T => T = base :: recs ∨ Q T) X)) := by
  obtain ⟨hv, rv, D, S, l, h1, rfl, rfl, h4, h5, rfl, h8, hro, h9, _, h10⟩ := h
  have h9 := h9 rfl
  have hP := h9.facts h5
  have hn := h5.n.2
  have hA4 := areaN_le h8
  have hps := hP.slot
  simp only at hps
  have ha : S.area ≤ 1 := hP.area
  have hs2 : S.slot % 2 + 1 = 1 ∨ S.slot % 2 + 1 = 2 := by omega
  have m := store_math h5 h9 hA4 (1 - S.area) 0 t [] (by omega) (Or.inr ⟨rfl, rfl, rfl⟩)
  have hiv := h5.run _ (script_ok (areaN D.n) (S.slot % 2 + 1) (1 - S.area) 0 t D.n hs2 (by omega) (by omega) hA4)
  rw [script_len] at hiv
  have c := replace_any l h5 h1.size h4 h8 hn (areaN D.n) rfl t hr (by omega) (S.slot % 2 + 1) (1 - S.area) (0 + secs t) rfl ha rfl (by omega) _ rfl
  refine c.mono ?_
  rintro e w' ⟨rfl, z⟩
  cases hc : (drun D (script (areaN D.n) (S.slot % 2 + 1) (1 - S.area) 0 t)).1 with
  | none =>
    rw [hc] at z
    have r := Lx.of (u := false) (Q := fun T => T = S.base :: S.recs) l h10 h1 z rfl rfl h4 hiv.1 hiv.2 h8 (show secsL [t] ≤ _ by simpa [secsL] using hr) (fun _ => Or.inr ⟨_, rfl, m.1 hc⟩) (fun h => by cases h)
    exact ⟨0, rfl, r.2, Or.inl ⟨rfl, r.1⟩⟩
  | some x =>
    rw [hc] at z
    have r := Lx.of (u := true) (Q := fun T => T = S.base :: S.recs ∨ Q T) l h10 h1 z rfl rfl rfl hiv.1 hiv.2 h8 hro (fun h => by cases h) (fun _ => m.2 x hc)
    exact ⟨x, rfl, r.2, Or.inr ⟨(err_some hc).2, r.1⟩⟩

/-- Flush: done, or cut off. -/
theorem fault_flush (h : Lx W w lb g gs n b base recs false Q X) (hb : b ≤ 100000) :
    Calls Try.prog 17 #[.pointer (some ⟨lb, 0, none⟩)] w fun e w' => ∃ E, e = .returned (.int .i64 E) ∧ Kept X w w' ∧ ((E = 0 ∧ Lx W w' lb g gs n (b + 1) base recs false (fun _ => False) X) ∨ ((E = 41 ∨ E = 42) ∧ Lx W w' lb g gs n (b + 1) base recs true (fun T => T = base :: recs ∨ Q T) X)) := by
  obtain ⟨hv, rv, D, S, l, h1, rfl, rfl, h4, h5, rfl, h8, hro, h9, _, h10⟩ := h
  have h9 := h9 rfl
  have c := lflush_call l h5 hb h4 _ rfl
  refine c.mono ?_
  rintro e w' ⟨rfl, z⟩
  by_cases hl : D.left = 0
  · have hds : dstep D none = (some 41, D) := by rw [dstep_none, if_pos hl]
    rw [hds] at z ⊢
    have r := Lx.of (u := true) (Q := fun T => T = S.base :: S.recs ∨ Q T) l h10 h1 z rfl rfl rfl (h5.mono (Nat.le_succ b)) rfl h8 hro (fun h => by cases h) (fun _ L => h9.crashed L)
    exact ⟨41, rfl, r.2, Or.inr ⟨Or.inl rfl, r.1⟩⟩
  · have hds : dstep D none = (none, D.flushed) := by rw [dstep_none, if_neg hl]
    rw [hds] at z ⊢
    have r := Lx.of (u := false) (Q := fun _ => False) l h10 h1 z rfl rfl h4 h5.flushed rfl h8 hro (fun _ => Or.inl h9.flushed) (fun h => by cases h)
    exact ⟨0, rfl, r.2, Or.inl ⟨rfl, r.1⟩⟩

theorem down_append (h : Lx W w lb g gs n b base recs true Q X) (t : ByteArray) : Calls Try.prog 15 #[.pointer (some ⟨lb, 0, none⟩), .string t] w fun e w' => e = .returned (.int .i64 41) ∧ w' = w := by
  obtain ⟨hv, rv, D, S, l, h1, h2, h3, h4, _⟩ := h
  exact append_unfit l h4 t
theorem down_replace (h : Lx W w lb g gs n b base recs true Q X) (t : ByteArray) : Calls Try.prog 18 #[.pointer (some ⟨lb, 0, none⟩), .string t] w fun e w' => e = .returned (.int .i64 41) ∧ w' = w := by
  obtain ⟨hv, rv, D, S, l, h1, h2, h3, h4, _⟩ := h
  exact replace_unfit l h4 t
theorem down_flush (h : Lx W w lb g gs n b base recs true Q X) : Calls Try.prog 17 #[.pointer (some ⟨lb, 0, none⟩)] w fun e w' => e = .returned (.int .i64 41) ∧ w' = w := by
  obtain ⟨hv, rv, D, S, l, h1, h2, h3, h4, _⟩ := h
  exact flush_unfit l h4

theorem fault_base (h : Lx W w lb g gs n b base recs u Q X) :
    Calls Try.prog 28 #[.pointer (some ⟨lb, 0, none⟩)] w fun e w' => e = .returned (.string base) ∧ Below w.heap.size w w' := by
  have hr := h.room
  obtain ⟨hv, rv, D, S, l, h1, rfl, rfl, _⟩ := h
  exact base_any (lcell l.log).2.2.2.2.1 (size_of_secs (A := areaN n) (Nat.le_trans (secs_mem (List.mem_cons_self ..)) hr.1) (by unfold areaN; omega))
theorem fault_records (h : Lx W w lb g gs n b base recs u Q X) :
    Calls Try.prog 27 #[.pointer (some ⟨lb, 0, none⟩)] w fun e w' => ∃ v, e = .returned v ∧ Row w' w.heap.size v recs ∧ Below w.heap.size w w' := by
  have hr := h.room
  obtain ⟨hv, rv, D, S, l, h1, rfl, rfl, _⟩ := h
  have hA : areaN n ≤ 4096 := by unfold areaN; omega
  refine records_any (lcell l.log).2.2.2.2.2.1 l.row ?_ (fun t ht => size_of_secs (A := areaN n) (Nat.le_trans (secs_mem (List.mem_cons_of_mem _ ht)) hr.1) hA)
  have := recs_le S.base S.recs
  omega

/-- The device is told when to go down, and which write to refuse. -/
theorem fault_arm (h : Lx W w lb g gs n b base recs false Q X) (x : Nat) (hx : x ≤ 100000) :
    Calls Try.prog 24 #[.pointer (some ⟨g, 0, none⟩), .int .i64 (x : Int)] w fun e w' => e = .returned (.tuple #[]) ∧ Lx W w' lb g gs n b base recs false Q X ∧ Kept X w w' := by
  obtain ⟨hv, rv, D, S, l, h1, rfl, rfl, h4, h5, rfl, h8, hro, h9, _, h10⟩ := h
  refine (arm_any l.dev (x : Int) (max (x : Int) (-1)) rfl).mono ?_
  rintro e w' ⟨rfl, d, f⟩
  have r := Lx.of (u := false) (Q := Q) l h10 h1 (l.did ⟨hv, d, f, fun _ e => Or.inl e⟩) rfl rfl h4 (h5.armed (x : Int) (by omega)) rfl h8 hro (fun _ => (h9 rfl).same rfl rfl) (fun h => by cases h)
  exact ⟨rfl, r.1, r.2⟩
theorem fault_refuse (h : Lx W w lb g gs n b base recs false Q X) (x : Nat) (hx : x ≤ 100000) :
    Calls Try.prog 25 #[.pointer (some ⟨g, 0, none⟩), .int .i64 (x : Int)] w fun e w' => e = .returned (.tuple #[]) ∧ Lx W w' lb g gs n b base recs false Q X ∧ Kept X w w' := by
  obtain ⟨hv, rv, D, S, l, h1, rfl, rfl, h4, h5, rfl, h8, hro, h9, _, h10⟩ := h
  refine (refuse_any l.dev (x : Int) (max (x : Int) 0) rfl).mono ?_
  rintro e w' ⟨rfl, d, f⟩
  have r := Lx.of (u := false) (Q := Q) l h10 h1 (l.did ⟨hv, d, f, fun _ e => Or.inl e⟩) rfl rfl h4 (h5.refused (x : Int) (by omega)) rfl h8 hro (fun _ => (h9 rfl).same rfl rfl) (fun h => by cases h)
  exact ⟨rfl, r.1, r.2⟩

/-- A crash of the device: what is opened has the log's state, or one of Q. -/
theorem fault_crash (h : Lx W w lb g gs n b base recs u Q X) (L : List Int) (ka : Option Addr) (kc : Nat) (hL : SlI w ka L) (hka : ∀ bl off, ka = some ⟨bl, off, none⟩ → L ≠ [] → bl < W.heap.size ∨ X bl) (hb : b ≤ 100000) :
    Calls Try.prog 19 #[.pointer (some ⟨g, 0, none⟩), .slice ka L.length kc] w fun e w' => e = .returned (.tuple #[]) ∧ Dw W w' g gs n b (fun T => T = base :: recs ∨ Q T) X ∧ Kept X w w' := by
  obtain ⟨hv, rv, D, S, l, h1, rfl, rfl, h4, h5, rfl, h8, hro, h9, h9u, h10⟩ := h
  have hlen := h5.len
  have hR0 : ∃ R, Solid (areaN D.n) (D.crashed L) R ∧ (R.T = S.base :: S.recs ∨ Q R.T) := by
    cases u with
    | false => exact (h9 rfl).crashed L
    | true => obtain ⟨R, a, c⟩ := h9u rfl L; exact ⟨R, a, Or.inr c⟩
  obtain ⟨R, sol, hR⟩ := hR0
  have hi := h5.crashed L
  refine (crash_any l.dev L ka kc hL (fun bl off e ne r => ?_) h5.held h5.safe (by omega)).mono ?_
  · rcases hka bl off e ne with q | q
    · have := l.dev.from bl r; omega
    · exact (h10 bl q).2 (Or.inr (Or.inl r))
  · rintro e w' ⟨rfl, d', f⟩
    have hs : (D.crashed L).safe = (D.crashed L).seen := by
      have := hi.seen
      rw [sol.held] at this
      exact this
    refine ⟨rfl, ⟨_, _, R, d', ?_, hi, calm_crashed D L, rfl, h8, ?_, ?_, hR, fun k x => ⟨Nat.lt_of_lt_of_le (h10 k x).1 f.size, ?_⟩⟩, f.size, fun k x => f.block k (h10 k x).1 (fun r => (h10 k x).2 (Or.inr (Or.inl r)))⟩
    · exact f.below h1 h1.size (fun k hk => l.dev.from k hk)
    · rw [← hs]; exact sol.safe
    · rw [← hs]; exact sol.mark
    · rintro (r | r | r)
      · exact (h10 k x).2 (Or.inr (Or.inl (Or.inl r)))
      · exact (h10 k x).2 (Or.inr (Or.inl (Or.inr (Or.inl r))))
      · cases r

set_option maxHeartbeats 800000 in
set_option maxRecDepth 100000 in
theorem fault_seen (h : Lx W w lb g gs n b base recs u Q X) :
    Calls Try.prog 21 #[.pointer (some ⟨lb, 0, none⟩)] w fun e w' => ∃ v, e = .returned (.agg #[.string base, v]) ∧ Row w' w.heap.size v recs ∧ Below w.heap.size w w' := by
  have b0 := below_alloc1 w (.cells #[.string ⟨#[]⟩, .slice none 0 0] 35)
  have l0 := h.below b0
  have hlt0 : w.heap.size < (w.alloc (.cells #[.string ⟨#[]⟩, .slice none 0 0] 35)).heap.size := by simp
  go_enter Try.func21, Try.ntmps21
  go_wp2_with fail
  refine (fault_base l0).mono ?_
  rintro e w1 ⟨rfl, b1⟩
  have l1 := l0.below b1
  go_wp2_with fail
  refine (fault_records l1).mono ?_
  rintro e w2 ⟨v, rfl, r2, b2⟩
  have b02 := below2 b1 b2
  have e0 := (b02.block w.heap.size hlt0).trans (heap_alloc_new w _)
  have y0 := frozen_of_row w2 w.heap.size 0 _ _ e0
  have y1 := frozen_of_row w2 w.heap.size 1 _ _ e0
  have x0 : w2.cell? ⟨w.heap.size, 0, none⟩ = some (.string ⟨#[]⟩) := by simp [World.cell?, e0]
  have x1 : w2.cell? ⟨w.heap.size, 1, none⟩ = some (.slice none 0 0) := by simp [World.cell?, e0]
  obtain ⟨a, c, hav⟩ := r2.len
  have hne : ∀ k, v.ownBlock = some k → k ≠ w.heap.size := fun k e => by have := (r2.blk e).1; have := b1.size; simp at this; omega
  have r3 : Row ((w2.setCell ⟨w.heap.size, 0, none⟩ (.string base)).setCell ⟨w.heap.size, 1, none⟩ v) w.heap.size v recs := by
    have r := (r2.kept (w' := (w2.setCell ⟨w.heap.size, 0, none⟩ (.string base)).setCell ⟨w.heap.size, 1, none⟩ v) (fun k e => (Below.heap_setCell _ _ _ _ (hne k e)).trans (Below.heap_setCell _ _ _ _ (hne k e))))
    rcases r with r | ⟨bb, o, cap, cur, e, hb, r⟩
    · exact Or.inl r
    · exact Or.inr ⟨bb, o, cap, cur, e, Nat.le_trans (Nat.le_trans b0.size b1.size) hb, r⟩
  have b3 := below2 b0 b02
  subst hav
  go_wp2_with fail
  refine bodyPost_ret (v := .agg #[.string base, .slice a recs.length c]) ?_ rfl ⟨_, rfl, r3, (b3.setCell (Nat.le_refl _) _).setCell (Nat.le_refl _) _⟩
  simp [results, Try.results21, go_sem, x0, x1]
end

end Go.Proofs.Ytlapgalefpenbaa
end

section
namespace Go.Proofs.Ytlapgalefpenbaa
open Go.RowKit Go.ChangeShapes Go.WideShapes Go.ChangeAt Go.Deep Go.Joins

theorem Try.cellsDown : Try.prog.cellsOf 52 = 4 := by kernel_rfl
theorem Try.cellsSteps : Try.prog.cellsOf 22 = 1 := by kernel_rfl

section
variable {H : Type} {enc : TypeId × Value → H} {W : World} {base : Nat}
set_option maxRecDepth 100000 in
theorem open_down {v : Value} {d : DataW H} {ps : List MemPlace} (hv : Value.okWide Try.prog W .any base 52 v) (h : DataW.Trod enc Try.prog W 0 (fun _ => true) true 52 v d ps) :
    ∃ (x y : Int) (a : Option Addr) (L : List St) (cap : Nat) (k : KI), v = .agg #[.int .i64 x, .int .i64 y, .slice a L.length cap, .slice k.a k.L.length k.c] ∧ i64B x ∧ i64B y ∧ SlG W a 3 St.cells L ∧ L.length ≤ cap ∧ cap ≤ maxLen ∧ (∀ s ∈ L, s.ok W) ∧ k.ok W := by
  obtain ⟨cs, rfl, hsz⟩ := okWide_struct Try.underlying52 hv
  obtain ⟨fuel, hf⟩ := h
  obtain ⟨y0, y1, y2, y3, n, _, hl, h0, h1, h2, h3⟩ := trod_struct4 Try.underlying52 hf
  rw [Try.cellsDown] at hl
  obtain ⟨l⟩ := cs
  simp only [Value.cells] at h0 h1 h2 h3 hl
  match l, hl with
  | [p, q, r, s], _ =>
    obtain ⟨k0, e0, _, w0⟩ := DataW.trod_int (t := 3) Try.underlying3 h0
    obtain ⟨k1, e1, _, w1⟩ := DataW.trod_int (t := 3) Try.underlying3 h1
    obtain ⟨a, L, cap, e2, r1, r2, r3, r4⟩ := trod_steps h2
    obtain ⟨k, e3, hk⟩ := trod_ki h3
    simp [KI.cells, Try.cellsInt, Try.cellsInts, Try.cellsSteps] at e0 e1 e2 e3
    subst e0 e1 e2 e3
    exact ⟨k0, k1, a, L, cap, k, rfl, bounds_i64 w0, bounds_i64 w1, r1, r2, r3, r4, hk⟩
end

section
variable {W w w' : World} {B nb : Nat} {base : ByteArray} {nv sv : Value} {recs : List ByteArray} {L : List Sv}

/-- A log and states beside it. -/
structure Px (W w : World) (lb g gs n b : Nat) (lbase : ByteArray) (lrecs : List ByteArray) (u : Bool) (Q : List ByteArray → Prop) (nb : Nat) (base : ByteArray) (nv : Value) (recs : List ByteArray) (sv : Value) (L : List Sv) (Y : Nat → Prop) : Prop where
  lx : Lx W w lb g gs n b lbase lrecs u Q (fun k => footS nb nv sv L k ∨ Y k)
  nw : Nw W w nb base nv recs sv L

variable {lb g gs n b : Nat} {lbase : ByteArray} {lrecs : List ByteArray} {u : Bool} {Q : List ByteArray → Prop} {Y : Nat → Prop}

theorem Px.below (h : Px W w lb g gs n b lbase lrecs u Q nb base nv recs sv L Y) (hb : Below w.heap.size w w') : Px W w' lb g gs n b lbase lrecs u Q nb base nv recs sv L Y :=
  ⟨(h.lx.below hb).less (fun _ x => Or.inl x), h.nw.below hb⟩
theorem Px.belowN (h : Px W w lb g gs n b lbase lrecs u Q nb base nv recs sv L Y) (hb : Below w.heap.size w w') : Px W w' lb g gs n b lbase lrecs u Q nb base nv recs sv L (fun k => Y k ∨ (w.heap.size ≤ k ∧ k < w'.heap.size)) :=
  ⟨(h.lx.below hb).less (fun _ x => by rcases x with x | x | x; · exact Or.inl (Or.inl x)
                                       · exact Or.inl (Or.inr x)
                                       · exact Or.inr x), h.nw.below hb⟩
theorem Px.less {Z : Nat → Prop} (h : Px W w lb g gs n b lbase lrecs u Q nb base nv recs sv L Y) (hZ : ∀ k, Z k → Y k) : Px W w lb g gs n b lbase lrecs u Q nb base nv recs sv L Z :=
  ⟨h.lx.less (fun k x => x.elim Or.inl (fun y => Or.inr (hZ k y))), h.nw⟩
/-- A call of the log. -/
theorem Px.did {lb' b' : Nat} {lbase' : ByteArray} {lrecs' : List ByteArray} {u' : Bool} {Q' : List ByteArray → Prop} (h : Px W w lb g gs n b lbase lrecs u Q nb base nv recs sv L Y) (l : Lx W w' lb' g gs n b' lbase' lrecs' u' Q' (fun k => footS nb nv sv L k ∨ Y k)) (k : Kept (fun k => footS nb nv sv L k ∨ Y k) w w') : Px W w' lb' g gs n b' lbase' lrecs' u' Q' nb base nv recs sv L Y :=
  ⟨l, h.nw.kept (fun j r => k.2 j (Or.inl r))⟩
/-- The state that is, written anew. -/
theorem Px.put (h : Px W w lb g gs n b lbase lrecs u Q nb base nv recs sv L Y) (base' : ByteArray) (nv' : Value) (recs' : List ByteArray) (hr : Row w W.heap.size nv' recs') (hY : ∀ k, nv'.ownBlock = some k → footS nb nv sv L k ∨ Y k) :
    Px W ((w.setCell ⟨nb, 0, none⟩ (.string base')).setCell ⟨nb, 1, none⟩ nv') lb g gs n b lbase lrecs u Q nb base' nv' recs' sv L Y := by
  obtain ⟨p, f⟩ := h.nw.put base' nv' recs' hr
  refine ⟨(h.lx.fr f (fun k e => Or.inl (Or.inl (Option.some.inj e).symm)) (fun k e => by have := h.nw.nB; have := Option.some.inj e; omega)).less ?_, p⟩
  rintro k ((r | r | r | r) | r)
  · exact Or.inl (Or.inl (Or.inl r))
  · exact Or.inl (hY k r)
  · exact Or.inl (Or.inl (Or.inr (Or.inr (Or.inl r))))
  · exact Or.inl (Or.inl (Or.inr (Or.inr (Or.inr r))))
  · exact Or.inl (Or.inr r)
/-- But one state. -/
theorem Px.one (h : Px W w lb g gs n b lbase lrecs u Q nb base nv recs sv L Y) : Px W (w.alloc (.cells #[.string base, nv] 35)) lb g gs n b lbase lrecs u Q nb base nv recs (.slice (some ⟨w.heap.size, 0, none⟩) 1 1) [⟨base, nv, recs⟩] Y := by
  refine ⟨(h.lx.below (below_alloc1 w _)).less ?_, h.nw.one h.lx.bel.size⟩
  rintro k ((r | r | r | ⟨s, hs, r⟩) | r)
  · exact Or.inl (Or.inl (Or.inl r))
  · exact Or.inl (Or.inl (Or.inr (Or.inl r)))
  · have r : w.heap.size = k := Option.some.inj r
    exact Or.inr ⟨by omega, by simp; omega⟩
  · simp at hs
    subst hs
    exact Or.inl (Or.inl (Or.inr (Or.inl r)))
  · exact Or.inl (Or.inr r)
/-- One state more. -/
theorem Px.push {sv' : Value} {y : Sv} (h : Px W w lb g gs n b lbase lrecs u Q nb base nv recs sv L Y) (p : Nw W w' nb base nv recs sv' (L ++ [y])) (f : Fr (fun k => sv.ownBlock = some k) w w') (hf : ∀ k, footS nb nv sv' (L ++ [y]) k → footS nb nv sv L k ∨ y.v.ownBlock = some k ∨ (w.heap.size ≤ k ∧ k < w'.heap.size)) (hy : ∀ k, y.v.ownBlock = some k → footS nb nv sv L k ∨ Y k) : Px W w' lb g gs n b lbase lrecs u Q nb base nv recs sv' (L ++ [y]) Y := by
  refine ⟨(h.lx.fr f (fun k e => Or.inl (Or.inr (Or.inr (Or.inl e)))) (fun k e => (h.nw.sts.blk e).1)).less ?_, p⟩
  rintro k (r | r)
  · rcases hf k r with q | q | q
    · exact Or.inl (Or.inl q)
    · exact Or.inl (hy k q)
    · exact Or.inr q
  · exact Or.inl (Or.inr r)
end

end Go.Proofs.Ytlapgalefpenbaa
end

section
namespace Go.Proofs.Ytlapgalefpenbaa
open Go.RowKit

/-- What was told, and whether the log is unfit. -/
def ToldU (E : Int) (u : Bool) : Prop := (u = false ∧ E = 0) ∨ (u = true ∧ (E = 41 ∨ E = 42))

theorem Px.of_pl {W w : World} {lb g gs n b nb : Nat} {lbase base : ByteArray} {lrecs recs : List ByteArray} {Q : List ByteArray → Prop} {nv sv : Value} {L : List Sv} {Y : Nat → Prop} (h : Pl W w lb g gs n b lbase lrecs Q nb base nv recs sv L Y) : Px W w lb g gs n b lbase lrecs false Q nb base nv recs sv L Y := ⟨h.lw.lx, h.nw⟩
/-- A store beside all. -/
theorem Px.aside {W w : World} {lb g gs n b nb : Nat} {lbase base : ByteArray} {lrecs recs : List ByteArray} {u : Bool} {Q : List ByteArray → Prop} {nv sv : Value} {L : List Sv} {Y : Nat → Prop} (h : Px W w lb g gs n b lbase lrecs u Q nb base nv recs sv L Y) (k : Nat) (hY : Y k) (hW : W.heap.size ≤ k) (hn : ¬ footS nb nv sv L k) (o : Nat) (x : Value) : Px W (w.setCell ⟨k, o, none⟩ x) lb g gs n b lbase lrecs u Q nb base nv recs sv L Y :=
  ⟨(h.lx.fr (row := some k) ((Fr.refl _ _).set (F := fun j => some k = some j) (p := ⟨k, o, none⟩) (Or.inl rfl) x) (fun j e => by cases e; exact Or.inr hY) (fun j e => by cases e; exact hW)).less (fun _ r => Or.inl r), h.nw.kept (fun j r => Below.heap_setCell _ _ _ _ (fun e => hn ((show j = k from e) ▸ r)))⟩

set_option maxHeartbeats 25600000 in
set_option maxRecDepth 100000 in
theorem down_good (x y : Int) (n r : Nat) (a0 : Option Addr) (L : List St) (c0 : Nat) (K : KI) (w : World) (cM : ∀ w, Calls Try.prog 8 #[.int .i64 x, .int .i64 40] w fun e w' => e = .returned (.int .i64 (n : Int)) ∧ w' = w) (cM2 : ∀ w, Calls Try.prog 8 #[.int .i64 y, .int .i64 30] w fun e w' => e = .returned (.int .i64 (r : Int)) ∧ w' = w) (hn : n ≤ 100) (hr : r ≤ 100) (hfair : fairL L) (cF : ∀ V, Below w.heap.size w V → Calls Try.prog 9 #[.slice a0 L.length c0] V fun e w' => e = .returned (.bool true) ∧ Below V.heap.size V w') (hK : K.L.length ≤ 1000) (hKok : K.ok w) (hL : SlG w a0 3 St.cells L) (hLc : L.length ≤ c0) :
    Calls Try.prog 4 #[.agg #[.int .i64 x, .int .i64 y, .slice a0 L.length c0, .slice K.a K.L.length K.c]] w fun e w' => e = .returned (.bool true) ∧ Below w.heap.size w w' := by
  obtain ⟨kA, kL, kC⟩ := K
  dsimp only at hK
  have hK2 : ¬ (1000 : Int) < (kL.length : Int) := by omega
  have hKs : SlI w kA kL := hKok.sl
  have hKn : kA = none → kC = 0 := hKok.nil
  have hKc : kL.length ≤ kC := hKok.len
  clear hKok
  have hA30 : areaN 64 = 30 := rfl
  have hL100 := hfair.2
  have b0 := below_alloc1 w (.cells #[.int .i64 x, .int .i64 y, .slice a0 L.length c0, .slice kA kL.length kC] 52)
  have z0 : (w.alloc (.cells #[.int .i64 x, .int .i64 y, .slice a0 L.length c0, .slice kA kL.length kC] 52)).cell? ⟨w.heap.size, 0, none⟩ = some (.int .i64 x) := by simp
  have z1 : (w.alloc (.cells #[.int .i64 x, .int .i64 y, .slice a0 L.length c0, .slice kA kL.length kC] 52)).cell? ⟨w.heap.size, 1, none⟩ = some (.int .i64 y) := by simp
  have z2 : (w.alloc (.cells #[.int .i64 x, .int .i64 y, .slice a0 L.length c0, .slice kA kL.length kC] 52)).cell? ⟨w.heap.size, 2, none⟩ = some (.slice a0 L.length c0) := by simp
  have z3 : (w.alloc (.cells #[.int .i64 x, .int .i64 y, .slice a0 L.length c0, .slice kA kL.length kC] 52)).cell? ⟨w.heap.size, 3, none⟩ = some (.slice kA kL.length kC) := by simp
  go_enter Try.func4, Try.ntmps4
  go_wp2_with fail
  generalize w.alloc (.cells #[.int .i64 x, .int .i64 y, .slice a0 L.length c0, .slice kA kL.length kC] 52) = W0 at b0 z0 z1 z2 z3 ⊢
  go_region_held3 (fun V => V.cell? ⟨w.heap.size, 0, none⟩ = some (.int .i64 x) ∧ V.cell? ⟨w.heap.size, 1, none⟩ = some (.int .i64 y) ∧ V.cell? ⟨w.heap.size, 2, none⟩ = some (.slice a0 L.length c0) ∧ V.cell? ⟨w.heap.size, 3, none⟩ = some (.slice kA kL.length kC)) (first | exact ⟨z0, z1, z2, z3⟩ | go_keep) (fail)
  have bD := below2 b0 (below_drew W0)
  clear z0 z1 z2 z3
  go_wp2_with fail
  refine (cF _ bD).mono ?_
  rintro e w2 ⟨rfl, b2⟩
  have b2 := below2 bD b2
  clear cF bD b0
  go_wp2_with fail
  refine (new_any 64 w2 (by omega) (by omega)).mono ?_
  rintro e w3 ⟨g, gs, rfl, d3, b3⟩
  go_wp2_with fail
  refine (play_format d3 b3 (by omega) (by omega) ⟨#[102, 105, 114, 115, 116]⟩ (by show 1 ≤ areaN 64; omega)).mono ?_
  rintro e w4 ⟨lb, rfl, l4⟩
  rw [show secs (⟨#[102, 105, 114, 115, 116]⟩ : ByteArray) + 5 = 6 from rfl] at l4
  have p4 := Px.of_pl (Pl.init l4)
  obtain ⟨y40, y41, _, _⟩ := p4.nw.cells
  have p5 := p4.one
  have hsz : (w4.alloc (.cells #[.string ⟨#[102, 105, 114, 115, 116]⟩, .slice none 0 0] 35)).heap.size = w4.heap.size + 1 := by simp
  rw [hsz] at p5
  clear d3 b3 l4 hsz p4
  go_wp2_with fail
  obtain ⟨nb, hnb⟩ : ∃ nb, w4.heap.size = nb := ⟨_, rfl⟩
  generalize (w4.alloc (.cells #[.string ⟨#[102, 105, 114, 115, 116]⟩, .slice none 0 0] 35)).alloc (.cells #[.string ⟨#[102, 105, 114, 115, 116]⟩, .slice none 0 0] 35) = w5 at p5 ⊢
  rw [hnb] at p5 ⊢
  clear hnb y40 y41
  refine (cM _).mono ?_
  rintro e w6 ⟨rfl, e6⟩
  rw [e6]
  clear e6 cM
  go_wp2_with fail
  refine (fault_arm p5.lx n (by omega)).mono ?_
  rintro e w7 ⟨rfl, l7, k7⟩
  have p7 := p5.did l7 k7
  clear p5 l7 k7
  go_wp2_with fail
  refine (cM2 _).mono ?_
  rintro e w8 ⟨rfl, e8⟩
  rw [e8]
  clear e8 cM2
  go_wp2_with fail
  refine (fault_refuse p7.lx r (by omega)).mono ?_
  rintro e w9 ⟨rfl, l9, k9⟩
  have p9 := p7.did l9 k9
  clear p7 l9 k9
  go_wp2_with fail
  go_loopw [12, 13, 14] (fun ss st si wr => ∃ (i b cn c2 : Nat) (an a2 : Option Addr) (bs : ByteArray) (recs : List ByteArray) (M : List Sv) (Q : List ByteArray → Prop) (u : Bool) (E : Int), i ≤ L.length ∧ ss = .slice a2 M.length c2 ∧ st = .int .i64 E ∧ si = .int .i64 (i : Int) ∧ b ≤ 60 + 100 * i ∧ M.length ≤ i + 1 ∧ Hid (∀ T, Q T → ∃ s ∈ M, T = s.base :: s.recs) ∧ Hid (∃ s ∈ M, bs :: recs = s.base :: s.recs) ∧ ToldU E u ∧ Px w2 wr lb g gs 64 b bs recs u Q nb bs (.slice an recs.length cn) recs (.slice a2 M.length c2) M (fun _ => False)) (fun _ _ si _ => L.length - (intOf si).toNat)
  case atStart => exact ⟨0, 6, 0, 1, none, _, _, [], [⟨_, .slice none 0 0, []⟩], _, false, 0, Nat.zero_le _, rfl, rfl, rfl, by omega, by simp, fun _ h => h.elim, ⟨_, List.mem_cons_self .., rfl⟩, Or.inl ⟨rfl, rfl⟩, p9⟩
  case round =>
    clear p9
    obtain ⟨i, b, cn, c2, an, a2, bs, recs, M, Q, u, E, hi, rfl, rfl, rfl, hb, hM, HQ, HC, hT, p⟩ := hrel
    by_cases hlt : i < L.length
    · have hlt2 : (i : Int) < (L.length : Int) := by omega
      have hx : L[i]? = some L[i] := by simp [hlt]
      generalize L[i] = xx at hx
      have hxm := List.mem_of_getElem? hx
      obtain ⟨hxs, hxk⟩ := hfair.1 xx hxm
      clear hxm
      obtain ⟨kind, text, ⟨ka, KL, kc⟩⟩ := xx
      dsimp only at hxs hxk
      rcases hL with hL | ⟨bl, off, rfl, hbl, hrd⟩
      · rw [hL] at hlt; simp at hlt
      have hlc2 : (L.length : Int) ≤ (c0 : Int) := by omega
      have bw : Below w.heap.size w wr := below2 b2 p.lx.bel
      have s0 : wr.cell? ⟨bl, off + i * 3, none⟩ = some (.int .i64 kind) := (bw.cell (p := ⟨bl, off + i * 3, none⟩) hbl).trans (hrd i _ hx 0 _ rfl)
      have s1 : wr.cell? ⟨bl, off + i * 3 + 1, none⟩ = some (.string text) := (bw.cell (p := ⟨bl, off + i * 3 + 1, none⟩) hbl).trans (hrd i _ hx 1 _ rfl)
      have s2 : wr.cell? ⟨bl, off + i * 3 + 2, none⟩ = some (.slice ka KL.length kc) := (bw.cell (p := ⟨bl, off + i * 3 + 2, none⟩) hbl).trans (hrd i _ hx 2 _ rfl)
      have bx := below_alloc1 wr (.cells #[.int .i64 kind, .string text, .slice ka KL.length kc] 40)
      have p0 := p.below bx
      obtain ⟨y10, y11, _, _⟩ := p0.nw.cells
      have bx2 := below_alloc1 (wr.alloc (.cells #[.int .i64 kind, .string text, .slice ka KL.length kc] 40)) (.cells #[.string bs, .slice an recs.length cn] 35)
      have p1 := ((p.belowN bx).belowN bx2).less (Z := fun k => k = wr.heap.size ∨ k = wr.heap.size + 1) (fun k e => by
        rcases e with e | e
        · exact Or.inl (Or.inr ⟨by omega, by simp; omega⟩)
        · exact Or.inr ⟨by simp; omega, by simp; omega⟩)
      have e1 := (bx2.block wr.heap.size (by simp)).trans (heap_alloc_new wr (.cells #[.int .i64 kind, .string text, .slice ka KL.length kc] 40))
      have e1n := heap_alloc_new (wr.alloc (.cells #[.int .i64 kind, .string text, .slice ka KL.length kc] 40)) (.cells #[.string bs, .slice an recs.length cn] 35)
      rw [show (wr.alloc (.cells #[.int .i64 kind, .string text, .slice ka KL.length kc] 40)).heap.size = wr.heap.size + 1 by simp] at e1n
      have HH : wr.heap.size < ((wr.alloc (.cells #[.int .i64 kind, .string text, .slice ka KL.length kc] 40)).alloc (.cells #[.string bs, .slice an recs.length cn] 35)).heap.size ∧ wr.heap.size + 1 < ((wr.alloc (.cells #[.int .i64 kind, .string text, .slice ka KL.length kc] 40)).alloc (.cells #[.string bs, .slice an recs.length cn] 35)).heap.size := ⟨by simp; omega, by simp⟩
      have hfo : ∀ k, footS nb (.slice an recs.length cn) (.slice a2 M.length c2) M k → k < wr.heap.size := fun k r => (p.nw.lt k r).2
      have c1k : ((wr.alloc (.cells #[.int .i64 kind, .string text, .slice ka KL.length kc] 40)).alloc (.cells #[.string bs, .slice an recs.length cn] 35)).cell? ⟨wr.heap.size, 0, none⟩ = some (.int .i64 kind) := by simp [World.cell?, e1]
      have c1t : ((wr.alloc (.cells #[.int .i64 kind, .string text, .slice ka KL.length kc] 40)).alloc (.cells #[.string bs, .slice an recs.length cn] 35)).cell? ⟨wr.heap.size, 1, none⟩ = some (.string text) := by simp [World.cell?, e1]
      obtain ⟨f1, f2, f3⟩ := p.lx.few (by omega)
      have hroom := p.lx.room.1
      clear hrd hx bx bx2 p
      by_cases h3 : 3000 < text.size
      · have h32 : (3000 : Int) < (text.size : Int) := by omega
        go_wp2_with fail
        go_roundw
        case rel => exact ⟨i + 1, b, cn, c2, an, a2, bs, recs, M, _, u, E, by omega, rfl, rfl, by go_num, by omega, by omega, HQ, HC, hT, (p0).less (Z := fun _ => False) (fun _ x => False.elim x)⟩
        case measure => simp [intOf]; omega
      have h32 : ¬ (3000 : Int) < (text.size : Int) := by omega
      by_cases hk2 : 2 < kind
      · go_wp2_with fail
        go_roundw
        case rel => exact ⟨i + 1, b, cn, c2, an, a2, bs, recs, M, _, u, E, by omega, rfl, rfl, by go_num, by omega, by omega, HQ, HC, hT, (p0).less (Z := fun _ => False) (fun _ x => False.elim x)⟩
        case measure => simp [intOf]; omega
      by_cases hk0 : kind < 0
      · go_wp2_with fail
        go_roundw
        case rel => exact ⟨i + 1, b, cn, c2, an, a2, bs, recs, M, _, u, E, by omega, rfl, rfl, by go_num, by omega, by omega, HQ, HC, hT, (p0).less (Z := fun _ => False) (fun _ x => False.elim x)⟩
        case measure => simp [intOf]; omega
      by_cases k0 : kind = 0
      · as_aux_lemma =>
          have g0 : (kind == 0) = true := by simpa using k0
          clear k0
          go_wp2_with fail
          obtain ⟨H, hH⟩ : ∃ H, wr.heap.size = H := ⟨_, rfl⟩
          generalize (wr.alloc (.cells #[.int .i64 kind, .string text, .slice ka KL.length kc] 40)).alloc (.cells #[.string bs, .slice an recs.length cn] 35) = W1 at p1 e1 e1n HH ⊢
          rw [hH] at p1 e1 e1n HH hfo ⊢
          obtain ⟨H2, hH2⟩ : ∃ H2, H + 1 = H2 := ⟨_, rfl⟩
          rw [hH2] at p1 e1n HH ⊢
          have hHH : Hid (H < H2) := by show H < H2; omega
          clear hH hH2 s0 s1 s2 c1k c1t y10 y11
          obtain ⟨m, hm⟩ : ∃ m, m = secs text := ⟨_, rfl⟩
          have hm7 : m ≤ 7 := by rw [hm]; unfold secs; omega
          have cS := fun V => refSectors_at text.size m (by omega) hm V
          have cR := fun V (h : Below W1.heap.size W1 V) => refRoom_any 64 (by omega) (by omega) bs f1 _ _ recs V (p1.below h).nw.nrow (by omega) f3
          obtain ⟨rm, hrm⟩ : ∃ rm : Int, rm = (areaN 64 : Int) - (secsL (bs :: recs) : Int) := ⟨_, rfl⟩
          rw [← hrm] at cR
          have HRM : Hid (rm = (areaN 64 : Int) - (secsL (bs :: recs) : Int) ∧ m = secs text) := ⟨hrm, hm⟩
          have kS : ∀ V, Below W1.heap.size W1 V → V.cell? ⟨nb, 0, none⟩ = some (.string bs) ∧ V.cell? ⟨nb, 1, none⟩ = some (.slice an recs.length cn) ∧ V.cell? ⟨H, 1, none⟩ = some (.string text) := fun V h => by
            have e := (h.block H HH.1).trans e1
            exact ⟨(p1.below h).nw.cells.1, (p1.below h).nw.cells.2.1, by simp [World.cell?, e]⟩
          have hbD := below_drew W1
          clear hm hrm
          apply wp_join (R := fun V => Below W1.heap.size W1 V)
          case h =>
            have hB := hbD
            go_region_held3 (fun V => V.cell? ⟨nb, 0, none⟩ = some (.string bs) ∧ V.cell? ⟨nb, 1, none⟩ = some (.slice an recs.length cn) ∧ V.cell? ⟨H, 1, none⟩ = some (.string text))
              (exact kS _ hB)
              (first
                | (go_at_call 13; refine (cR _ hB).mono ?_; rintro e wA ⟨rfl, bA⟩; have hB := below2 hB bA)
                | (go_at_call 14; refine (cS _).mono ?_; rintro e wA ⟨rfl, bA⟩; have hB := below2 hB bA))
            all_goals exact JoinQ.mk rfl hB
          intro W2 hB2
          have p2 := p1.below hB2
          have e2 := (hB2.block H HH.1).trans e1
          have e2n := (hB2.block H2 HH.2).trans e1n
          have c2t : W2.cell? ⟨H, 1, none⟩ = some (.string text) := by simp [World.cell?, e2]
          clear cR cS kS hbD p1 e1 e1n HH hB2
          by_cases hfu : rm < (m : Int)
          · go_wp2_with fail
            go_roundw
            case rel => exact ⟨i + 1, b, cn, c2, an, a2, bs, recs, M, _, u, E, by omega, rfl, rfl, by go_num, by omega, by omega, HQ, HC, hT, (p2).less (Z := fun _ => False) (fun _ x => False.elim x)⟩
            case measure => simp [intOf]; omega
          · have hfits : secsL (bs :: recs) + secs text ≤ areaN 64 := by have := HRM.out; omega
            have HF : Hid (secsL (bs :: recs) + secs text ≤ areaN 64) := hfits
            obtain ⟨R, hR⟩ : ∃ R, R = recs ++ [text] := ⟨_, rfl⟩
            have HRe : Hid (R = recs ++ [text]) := hR
            obtain ⟨y20, y21, _, _⟩ := p2.nw.cells
            clear hR hfits
            go_wp2_with fail
            refine (refAppend_any p2.nw.nrow f2).mono ?_
            rintro e w3 ⟨v3, rfl, r3, b3⟩
            rw [← HRe.out] at r3
            have p3 := p2.belowN b3
            have e3 := (b3.block H (Array.getElem?_eq_some_iff.1 e2).1).trans e2
            have e3n := (b3.block H2 (Array.getElem?_eq_some_iff.1 e2n).1).trans e2n
            obtain ⟨a4, c4, hv3⟩ := r3.len
            subst hv3
            have hW2 : w2.heap.size ≤ W2.heap.size := p2.lx.bel.size
            have hw2H : w2.heap.size ≤ H := by have := hfo nb (Or.inl rfl); have := p2.nw.nB; omega
            have q0 : w3.cell? ⟨H2, 0, none⟩ = some (.string bs) := by simp [World.cell?, e3n]
            have q1 : w3.cell? ⟨H2, 1, none⟩ = some (.slice an recs.length cn) := by simp [World.cell?, e3n]
            have q2 := frozen_of_row w3 H2 0 _ _ e3n
            have q3 := frozen_of_row w3 H2 1 _ _ e3n
            have hnf : ¬ footS nb (.slice an recs.length cn) (.slice a2 M.length c2) M H2 := fun r => by have := hfo H2 r; have := hHH.out; omega
            have p4 := (p3.aside H2 (Or.inl (Or.inr rfl)) (by have := hHH.out; omega) hnf 0 (.string bs)).aside H2 (Or.inl (Or.inr rfl)) (by have := hHH.out; omega) hnf 1 (.slice a4 R.length c4)
            have hne : ∀ k, k ≠ H2 → ((w3.setCell ⟨H2, 0, none⟩ (.string bs)).setCell ⟨H2, 1, none⟩ (.slice a4 R.length c4)).heap[k]? = w3.heap[k]? := fun k hk => (Below.heap_setCell _ _ _ _ hk).trans (Below.heap_setCell _ _ _ _ hk)
            have e4 := (hne H (by have := hHH.out; omega)).trans e3
            have e4n : ((w3.setCell ⟨H2, 0, none⟩ (.string bs)).setCell ⟨H2, 1, none⟩ (.slice a4 R.length c4)).heap[H2]? = some (.cells #[.string bs, .slice a4 R.length c4] 35 (0, 0)) := heap_setCell_same _ H2 1 _ _ _ (heap_setCell_same w3 H2 0 _ _ (.string bs) e3n)
            have r4 : Row ((w3.setCell ⟨H2, 0, none⟩ (.string bs)).setCell ⟨H2, 1, none⟩ (.slice a4 R.length c4)) w2.heap.size (.slice a4 R.length c4) R := (r3.kept (fun k e => hne k (row_ne r3 e e3n))).mono hW2
            have hYz0 : ∀ k, (Value.slice a4 R.length c4).ownBlock = some k → (W2.heap.size ≤ k ∧ k < w3.heap.size) := fun k e => r3.blk e
            have c4t : ((w3.setCell ⟨H2, 0, none⟩ (.string bs)).setCell ⟨H2, 1, none⟩ (.slice a4 R.length c4)).cell? ⟨H, 1, none⟩ = some (.string text) := by simp [World.cell?, e4]
            clear p3 p2 b3 e3 e3n e2 e2n hne y20 y21 r3
            go_wp2_with fail
            generalize (w3.setCell ⟨H2, 0, none⟩ (.string bs)).setCell ⟨H2, 1, none⟩ (.slice a4 R.length c4) = Wz at p4 e4 e4n r4 ⊢
            obtain ⟨Y, hYd⟩ : ∃ Y : Nat → Prop, (fun k => (k = H ∨ k = H2) ∨ W2.heap.size ≤ k ∧ k < w3.heap.size) = Y := ⟨_, rfl⟩
            have hYz : ∀ k, (Value.slice a4 R.length c4).ownBlock = some k → footS nb (.slice an recs.length cn) (.slice a2 M.length c2) M k ∨ Y k := fun k e => Or.inr (by rw [← hYd]; exact Or.inr (hYz0 k e))
            have hYH : Hid (Y H) := by show Y H; rw [← hYd]; exact Or.inl (Or.inl rfl)
            have hYH2 : Hid (Y H2) := by show Y H2; rw [← hYd]; exact Or.inl (Or.inr rfl)
            have pz := p4
            have ez := e4
            have ezn := e4n
            have rz := r4
            rw [hYd] at pz
            clear p4 e4 e4n r4 q0 q1 q2 q3 hYd hYz0 hnf c2t c4t hfu
            have hbz : b + secs text + 4 ≤ 100000 := by have := HRM.out; omega
            rw [← HRM.out.2] at hbz
            have cFa := fun (pz : Px w2 Wz lb g gs 64 b bs recs false Q nb bs (.slice an recs.length cn) recs (.slice a2 M.length c2) M Y) => fault_append pz.lx text HF.out (by rw [← HRM.out.2]; exact hbz)
            rw [← HRM.out.2, ← HRe.out] at cFa
            clear hbz
            rcases hT with ⟨rfl, rfl⟩ | ⟨rfl, hE⟩
            · as_aux_lemma =>
                refine (cFa pz).mono ?_
                rintro e w6 ⟨E', rfl, k6, hE'⟩
                have e6 := (k6.2 H (Or.inr (hYH.out))).trans ez
                have e6n := (k6.2 H2 (Or.inr (hYH2.out))).trans ezn
                have r6 := rz.kept (fun k e => k6.2 k (hYz k e))
                have hY6 := hYz
                rcases hE' with ⟨rfl, l6⟩ | ⟨rfl | rfl, l6⟩
                · have p6 := pz.did l6 k6
                  clear l6 k6 pz ez ezn rz hYz
                  have p6b := p6
                  obtain ⟨y60, y61, z60, z61⟩ := p6.nw.cells
                  have n60 : w6.cell? ⟨H2, 0, none⟩ = some (.string bs) := by simp [World.cell?, e6n]
                  have n61 : w6.cell? ⟨H2, 1, none⟩ = some (.slice a4 R.length c4) := by simp [World.cell?, e6n]
                  have p8 := p6b.put bs (.slice a4 R.length c4) R r6 hY6
                  obtain ⟨y80, y81, _, _⟩ := p8.nw.cells
                  have hs8 : ((w6.setCell ⟨nb, 0, none⟩ (.string bs)).setCell ⟨nb, 1, none⟩ (.slice a4 R.length c4)).heap.size = w6.heap.size := by simp
                  have ba := below_alloc1 ((w6.setCell ⟨nb, 0, none⟩ (.string bs)).setCell ⟨nb, 1, none⟩ (.slice a4 R.length c4)) (.cells #[.string bs, .slice a4 R.length c4] 35)
                  obtain ⟨M', hM'⟩ : ∃ M', M' = M ++ [⟨bs, .slice a4 R.length c4, R⟩] := ⟨_, rfl⟩
                  have HM : Hid (M' = M ++ [⟨bs, .slice a4 R.length c4, R⟩]) := hM'
                  have P6 : Hid (Px w2 (((w6.setCell ⟨nb, 0, none⟩ (.string bs)).setCell ⟨nb, 1, none⟩ (.slice a4 R.length c4)).alloc (.cells #[.string bs, .slice a4 R.length c4] 35)) lb g gs 64 (b + (m + 4)) bs R false (fun T => T = bs :: recs) nb bs (.slice a4 R.length c4) R (.slice a2 M.length c2) M Y) := p8.below ba
                  have R6 : Hid (Row (((w6.setCell ⟨nb, 0, none⟩ (.string bs)).setCell ⟨nb, 1, none⟩ (.slice a4 R.length c4)).alloc (.cells #[.string bs, .slice a4 R.length c4] 35)) w2.heap.size (.slice a4 R.length c4) R) := P6.out.nw.nrow
                  have Y6 : Hid (∀ k, (Value.slice a4 R.length c4).ownBlock = some k → footS nb (.slice a4 R.length c4) (.slice a2 M.length c2) M k ∨ Y k) := fun k e => Or.inl (Or.inr (Or.inl e))
                  have F7 : ∀ w7, Fr (fun k => (Value.slice a2 M.length c2).ownBlock = some k) (((w6.setCell ⟨nb, 0, none⟩ (.string bs)).setCell ⟨nb, 1, none⟩ (.slice a4 R.length c4)).alloc (.cells #[.string bs, .slice a4 R.length c4] 35)) w7 → w7.cell? ⟨H, 0, none⟩ = some (.int .i64 kind) := fun w7 f7 => by
                    have hlt6 := (Array.getElem?_eq_some_iff.1 e6).1
                    have hnn : H ≠ nb := fun e => by have := hfo nb (Or.inl rfl); omega
                    have q1 := f7.block H (by simp; omega) (fun e => by have := hfo H (Or.inr (Or.inr (Or.inl e))); omega)
                    have q2 := ba.block H (by simp; omega)
                    have q3 := (Below.heap_setCell (w6.setCell ⟨nb, 0, none⟩ (.string bs)) ⟨nb, 1, none⟩ (.slice a4 R.length c4) H hnn).trans (Below.heap_setCell w6 ⟨nb, 0, none⟩ (.string bs) H hnn)
                    have q := q1.trans (q2.trans (q3.trans e6))
                    simp [World.cell?, q]
                  clear p8 p6 p6b e6n e6 ba r6 hM' hY6 hs8
                  go_wp2_with (at_builtin; refine wpList_append_state _ rfl (.tmp 162) (.tmp 164) rfl rfl P6.out.nw w6.heap.size ⟨bs, .slice a4 R.length c4, R⟩ rfl (by go_simp) (by go_simp) R6.out (by omega) P6.out.lx.bel.size ?_; intro v7 w7 n7 f7 g7; have e7k := F7 w7 f7; have p7 := P6.out.push n7 f7 g7 Y6.out; rw [← HM.out] at p7; obtain ⟨a7, c7, hv7, _⟩ := p7.nw.sts.len; subst hv7; clear n7 f7 g7)
                  have hlen7 : M'.length = M.length + 1 := by rw [HM.out]; simp
                  have HC0 : Hid (∃ s ∈ M', bs :: recs = s.base :: s.recs) := by
                    obtain ⟨s, hs, e⟩ := HC.out
                    exact ⟨s, by rw [HM.out]; exact List.mem_append_left _ hs, e⟩
                  have HC7 : Hid (∃ s ∈ M', bs :: R = s.base :: s.recs) := ⟨_, by rw [HM.out]; exact List.mem_append_right _ (List.mem_cons_self ..), rfl⟩
                  have HB7 : Hid (M'.length ≤ i + 1 + 1) := by show _ ≤ _; omega
                  have HQ7 : Hid (∀ T, T = bs :: recs → ∃ s ∈ M', T = s.base :: s.recs) := by
                    rintro T rfl
                    exact HC0.out
                  clear P6 HM hlen7 R6 Y6
                  go_roundw
                  case rel => exact ⟨i + 1, (b + (m + 4)), c4, c7, a4, a7, bs, R, M', _, false, 0, by omega, rfl, rfl, by go_num, by omega, HB7.out, HQ7, HC7, Or.inl ⟨rfl, rfl⟩, (p7).less (Z := fun _ => False) (fun _ x => False.elim x)⟩
                  case measure => simp [intOf]; omega
                · as_aux_lemma =>
                    have p6 := pz.did l6 k6
                    clear l6 k6 pz ez ezn rz hYz e6
                    have hbD := below_drew w6
                    have kS9 : ∀ U, Below w6.heap.size w6 U → U.cell? ⟨nb, 0, none⟩ = some (.string bs) ∧ U.cell? ⟨nb, 1, none⟩ = some (.slice an recs.length cn) := fun U h => ⟨(p6.below h).nw.cells.1, (p6.below h).nw.cells.2.1⟩
                    have cSe := fun U (h : Below w6.heap.size w6 U) => fault_seen (p6.below h).lx
                    have cSa := fun U v B (h : Below w6.heap.size w6 U) (r : Row U B v recs) => refSame_true (b1 := bs) r (p6.below h).nw.nrow (by omega)
                    go_wp2_with fail
                    refine wp_region_held_drew (S := (fun U => U.cell? ⟨nb, 0, none⟩ = some (.string bs) ∧ U.cell? ⟨nb, 1, none⟩ = some (.slice an recs.length cn))) (by kernel_rfl) (kS9 _ hbD) (fun hHeld => ?_)
                    refine takeD 0 143 (v := .int .i64 41) rfl rfl (by kernel_rfl) (by kernel_rfl) (by kernel_rfl) (fun _ _ _ h => h) (Or.inl ⟨by rfl, by (intro w hSw; (try dsimp only at hSw); go_simp)⟩) hHeld ?_
                    simp only [List.setIfInBounds_toArray, List.set_cons_zero, List.set_cons_succ]
                    refine takeD 1 144 (v := .bool false) rfl rfl (by kernel_rfl) (by kernel_rfl) (by kernel_rfl) (fun _ _ _ h => h) (Or.inl ⟨by rfl, by (intro w hSw; (try dsimp only at hSw); go_simp)⟩) hHeld ?_
                    simp only [List.setIfInBounds_toArray, List.set_cons_zero, List.set_cons_succ]
                    refine takeD 2 145 (v := .bool false) rfl rfl (by kernel_rfl) (by kernel_rfl) (by kernel_rfl) (fun _ _ _ h => h) (Or.inl ⟨by rfl, by (intro w hSw; (try dsimp only at hSw); go_simp)⟩) hHeld ?_
                    simp only [List.setIfInBounds_toArray, List.set_cons_zero, List.set_cons_succ]
                    refine takeD 3 146 (v := undef) rfl rfl (by kernel_rfl) (by kernel_rfl) (by kernel_rfl) (fun _ _ _ h => h) (Or.inr ⟨by kernel_rfl, rfl⟩) hHeld ?_
                    simp only [List.setIfInBounds_toArray, List.set_cons_zero, List.set_cons_succ]
                    refine takeD 4 147 (v := undef) rfl rfl (by kernel_rfl) (by kernel_rfl) (by kernel_rfl) (fun _ _ _ h => h) (Or.inr ⟨by kernel_rfl, rfl⟩) hHeld ?_
                    simp only [List.setIfInBounds_toArray, List.set_cons_zero, List.set_cons_succ]
                    refine takeD 5 148 (v := .bool false) rfl rfl (by kernel_rfl) (by kernel_rfl) (by kernel_rfl) (fun _ _ _ h => h) (Or.inl ⟨by rfl, by (intro w hSw; (try dsimp only at hSw); go_simp)⟩) hHeld ?_
                    simp only [List.setIfInBounds_toArray, List.set_cons_zero, List.set_cons_succ]
                    refine takeD 6 149 (v := .bool false) rfl rfl (by kernel_rfl) (by kernel_rfl) (by kernel_rfl) (fun _ _ _ h => h) (Or.inl ⟨by rfl, by (intro w hSw; (try dsimp only at hSw); go_simp)⟩) hHeld ?_
                    simp only [List.setIfInBounds_toArray, List.set_cons_zero, List.set_cons_succ]
                    refine takeD 7 150 (v := .pointer (some ⟨lb, 0, none⟩)) rfl rfl (by kernel_rfl) (by kernel_rfl) (by kernel_rfl) (fun _ _ _ h => h) (Or.inl ⟨by rfl, by (intro w hSw; (try dsimp only at hSw); go_simp)⟩) hHeld ?_
                    simp only [List.setIfInBounds_toArray, List.set_cons_zero, List.set_cons_succ]
                    refine takeD 9 152 (v := .agg #[.string bs, .slice an recs.length cn]) rfl rfl (by kernel_rfl) (by kernel_rfl) (by kernel_rfl) (fun _ _ _ h => h) (Or.inl ⟨by rfl, by (intro w hSw; (try dsimp only at hSw); go_simp)⟩) hHeld ?_
                    simp only [List.setIfInBounds_toArray, List.set_cons_zero, List.set_cons_succ]
                    refine wpAnyH_ready (rs := [8]) (by kernel_rfl) (by simp) ?_
                    refine AllReadyH.cons rfl (fun K hK => ?_) AllReadyH.nil
                    go_simp
                    refine (cSe _ hbD).mono ?_
                    rintro e wA ⟨v, rfl, rA, bA⟩
                    go_simp
                    refine hK.out _ _ (kS9 _ (below2 hbD bA)) (fun hHeld => ?_)
                    clear hK K
                    refine wpAnyH_ready (rs := [10]) (by kernel_rfl) (by simp) ?_
                    refine AllReadyH.cons rfl (fun K hK => ?_) AllReadyH.nil
                    go_simp
                    refine (cSa _ _ _ (below2 hbD bA) rA).mono ?_
                    rintro e wB ⟨rfl, bB⟩
                    go_simp
                    refine hK.out _ _ (kS9 _ (below2 (below2 hbD bA) bB)) (fun hHeld => ?_)
                    clear hK K
                    refine takeD 11 154 (v := .bool false) rfl rfl (by kernel_rfl) (by kernel_rfl) (by kernel_rfl) (fun _ _ _ h => h) (Or.inl ⟨by rfl, by (intro w hSw; (try dsimp only at hSw); go_simp)⟩) hHeld ?_
                    simp only [List.setIfInBounds_toArray, List.set_cons_zero, List.set_cons_succ]
                    refine takeD 12 155 (v := .bool false) rfl rfl (by kernel_rfl) (by kernel_rfl) (by kernel_rfl) (fun _ _ _ h => h) (Or.inl ⟨by rfl, by (intro w hSw; (try dsimp only at hSw); go_simp)⟩) hHeld ?_
                    simp only [List.setIfInBounds_toArray, List.set_cons_zero, List.set_cons_succ]
                    refine wpAnyH_done (by kernel_rfl) ?_ _
                    have hB9 := below2 (below2 hbD bA) bB
                    have p9 := p6.below hB9
                    have e9n := (hB9.block H2 (Array.getElem?_eq_some_iff.1 e6n).1).trans e6n
                    have n90 : wB.cell? ⟨H2, 0, none⟩ = some (.string bs) := by simp [World.cell?, e9n]
                    have n91 : wB.cell? ⟨H2, 1, none⟩ = some (.slice a4 R.length c4) := by simp [World.cell?, e9n]
                    have ba := below_alloc1 wB (.cells #[.string bs, .slice a4 R.length c4] 35)
                    have r9 := r6.kept (fun k e => (below2 hB9 ba).block k (r6.blk e).2)
                    obtain ⟨M', hM'⟩ : ∃ M', M' = M ++ [⟨bs, .slice a4 R.length c4, R⟩] := ⟨_, rfl⟩
                    have HM : Hid (M' = M ++ [⟨bs, .slice a4 R.length c4, R⟩]) := hM'
                    have R6 : Hid (Row (wB.alloc (.cells #[.string bs, .slice a4 R.length c4] 35)) w2.heap.size (.slice a4 R.length c4) R) := r9
                    have P6 : Hid (Px w2 (wB.alloc (.cells #[.string bs, .slice a4 R.length c4] 35)) lb g gs 64 (b + (m + 4)) bs recs true (fun T => T = bs :: recs ∨ Q T) nb bs (.slice an recs.length cn) recs (.slice a2 M.length c2) M Y) := p9.below ba
                    have Y6 : Hid (∀ k, (Value.slice a4 R.length c4).ownBlock = some k → footS nb (.slice an recs.length cn) (.slice a2 M.length c2) M k ∨ Y k) := hY6
                    clear p9 p6 hB9 e9n e6n ba r9 r6 hM' kS9 cSe cSa hbD bA bB rA hY6
                    go_wp2_with (at_builtin; refine wpList_append_state _ rfl (.tmp 157) (.tmp 159) rfl rfl P6.out.nw wB.heap.size ⟨bs, .slice a4 R.length c4, R⟩ rfl (by go_simp) (by go_simp) R6.out (by omega) P6.out.lx.bel.size ?_; intro v7 w7 n7 f7 g7; have p7 := P6.out.push n7 f7 g7 Y6.out; rw [← HM.out] at p7; obtain ⟨a7, c7, hv7, _⟩ := p7.nw.sts.len; subst hv7; clear n7 f7 g7)
                    have hlen7 : M'.length = M.length + 1 := by rw [HM.out]; simp
                    have HC0 : Hid (∃ s ∈ M', bs :: recs = s.base :: s.recs) := by
                      obtain ⟨s, hs, e⟩ := HC.out
                      exact ⟨s, by rw [HM.out]; exact List.mem_append_left _ hs, e⟩
                    have HC7 : Hid (∃ s ∈ M', bs :: R = s.base :: s.recs) := ⟨_, by rw [HM.out]; exact List.mem_append_right _ (List.mem_cons_self ..), rfl⟩
                    have HB7 : Hid (M'.length ≤ i + 1 + 1) := by show _ ≤ _; omega
                    have HQ7 : Hid (∀ T, (T = bs :: recs ∨ Q T) → ∃ s ∈ M', T = s.base :: s.recs) := by
                      rintro T (rfl | h)
                      · exact HC0.out
                      · obtain ⟨s, hs, e⟩ := HQ.out T h
                        exact ⟨s, by rw [HM.out]; exact List.mem_append_left _ hs, e⟩
                    clear P6 HM hlen7 R6 Y6
                    go_wp2_with fail
                    go_roundw
                    case rel => exact ⟨i + 1, (b + (m + 4)), cn, c7, an, a7, bs, recs, M', _, true, 41, by omega, rfl, rfl, by go_num, by omega, HB7.out, HQ7, HC0, Or.inr ⟨rfl, Or.inl rfl⟩, (p7).less (Z := fun _ => False) (fun _ x => False.elim x)⟩
                    case measure => simp [intOf]; omega
                · as_aux_lemma =>
                    have p6 := pz.did l6 k6
                    clear l6 k6 pz ez ezn rz hYz e6
                    have hbD := below_drew w6
                    have kS9 : ∀ U, Below w6.heap.size w6 U → U.cell? ⟨nb, 0, none⟩ = some (.string bs) ∧ U.cell? ⟨nb, 1, none⟩ = some (.slice an recs.length cn) := fun U h => ⟨(p6.below h).nw.cells.1, (p6.below h).nw.cells.2.1⟩
                    have cSe := fun U (h : Below w6.heap.size w6 U) => fault_seen (p6.below h).lx
                    have cSa := fun U v B (h : Below w6.heap.size w6 U) (r : Row U B v recs) => refSame_true (b1 := bs) r (p6.below h).nw.nrow (by omega)
                    go_wp2_with fail
                    refine wp_region_held_drew (S := (fun U => U.cell? ⟨nb, 0, none⟩ = some (.string bs) ∧ U.cell? ⟨nb, 1, none⟩ = some (.slice an recs.length cn))) (by kernel_rfl) (kS9 _ hbD) (fun hHeld => ?_)
                    refine takeD 0 143 (v := .int .i64 42) rfl rfl (by kernel_rfl) (by kernel_rfl) (by kernel_rfl) (fun _ _ _ h => h) (Or.inl ⟨by rfl, by (intro w hSw; (try dsimp only at hSw); go_simp)⟩) hHeld ?_
                    simp only [List.setIfInBounds_toArray, List.set_cons_zero, List.set_cons_succ]
                    refine takeD 1 144 (v := .bool true) rfl rfl (by kernel_rfl) (by kernel_rfl) (by kernel_rfl) (fun _ _ _ h => h) (Or.inl ⟨by rfl, by (intro w hSw; (try dsimp only at hSw); go_simp)⟩) hHeld ?_
                    simp only [List.setIfInBounds_toArray, List.set_cons_zero, List.set_cons_succ]
                    refine takeD 2 145 (v := .bool true) rfl rfl (by kernel_rfl) (by kernel_rfl) (by kernel_rfl) (fun _ _ _ h => h) (Or.inl ⟨by rfl, by (intro w hSw; (try dsimp only at hSw); go_simp)⟩) hHeld ?_
                    simp only [List.setIfInBounds_toArray, List.set_cons_zero, List.set_cons_succ]
                    refine takeD 3 146 (v := .int .i64 42) rfl rfl (by kernel_rfl) (by kernel_rfl) (by kernel_rfl) (fun _ _ _ h => h) (Or.inl ⟨by rfl, by (intro w hSw; (try dsimp only at hSw); go_simp)⟩) hHeld ?_
                    simp only [List.setIfInBounds_toArray, List.set_cons_zero, List.set_cons_succ]
                    refine takeD 4 147 (v := .bool false) rfl rfl (by kernel_rfl) (by kernel_rfl) (by kernel_rfl) (fun _ _ _ h => h) (Or.inl ⟨by rfl, by (intro w hSw; (try dsimp only at hSw); go_simp)⟩) hHeld ?_
                    simp only [List.setIfInBounds_toArray, List.set_cons_zero, List.set_cons_succ]
                    refine takeD 5 148 (v := .bool false) rfl rfl (by kernel_rfl) (by kernel_rfl) (by kernel_rfl) (fun _ _ _ h => h) (Or.inl ⟨by rfl, by (intro w hSw; (try dsimp only at hSw); go_simp)⟩) hHeld ?_
                    simp only [List.setIfInBounds_toArray, List.set_cons_zero, List.set_cons_succ]
                    refine takeD 6 149 (v := .bool false) rfl rfl (by kernel_rfl) (by kernel_rfl) (by kernel_rfl) (fun _ _ _ h => h) (Or.inl ⟨by rfl, by (intro w hSw; (try dsimp only at hSw); go_simp)⟩) hHeld ?_
                    simp only [List.setIfInBounds_toArray, List.set_cons_zero, List.set_cons_succ]
                    refine takeD 7 150 (v := .pointer (some ⟨lb, 0, none⟩)) rfl rfl (by kernel_rfl) (by kernel_rfl) (by kernel_rfl) (fun _ _ _ h => h) (Or.inl ⟨by rfl, by (intro w hSw; (try dsimp only at hSw); go_simp)⟩) hHeld ?_
                    simp only [List.setIfInBounds_toArray, List.set_cons_zero, List.set_cons_succ]
                    refine takeD 9 152 (v := .agg #[.string bs, .slice an recs.length cn]) rfl rfl (by kernel_rfl) (by kernel_rfl) (by kernel_rfl) (fun _ _ _ h => h) (Or.inl ⟨by rfl, by (intro w hSw; (try dsimp only at hSw); go_simp)⟩) hHeld ?_
                    simp only [List.setIfInBounds_toArray, List.set_cons_zero, List.set_cons_succ]
                    refine wpAnyH_ready (rs := [8]) (by kernel_rfl) (by simp) ?_
                    refine AllReadyH.cons rfl (fun K hK => ?_) AllReadyH.nil
                    go_simp
                    refine (cSe _ hbD).mono ?_
                    rintro e wA ⟨v, rfl, rA, bA⟩
                    go_simp
                    refine hK.out _ _ (kS9 _ (below2 hbD bA)) (fun hHeld => ?_)
                    clear hK K
                    refine wpAnyH_ready (rs := [10]) (by kernel_rfl) (by simp) ?_
                    refine AllReadyH.cons rfl (fun K hK => ?_) AllReadyH.nil
                    go_simp
                    refine (cSa _ _ _ (below2 hbD bA) rA).mono ?_
                    rintro e wB ⟨rfl, bB⟩
                    go_simp
                    refine hK.out _ _ (kS9 _ (below2 (below2 hbD bA) bB)) (fun hHeld => ?_)
                    clear hK K
                    refine takeD 11 154 (v := .bool false) rfl rfl (by kernel_rfl) (by kernel_rfl) (by kernel_rfl) (fun _ _ _ h => h) (Or.inl ⟨by rfl, by (intro w hSw; (try dsimp only at hSw); go_simp)⟩) hHeld ?_
                    simp only [List.setIfInBounds_toArray, List.set_cons_zero, List.set_cons_succ]
                    refine takeD 12 155 (v := .bool false) rfl rfl (by kernel_rfl) (by kernel_rfl) (by kernel_rfl) (fun _ _ _ h => h) (Or.inl ⟨by rfl, by (intro w hSw; (try dsimp only at hSw); go_simp)⟩) hHeld ?_
                    simp only [List.setIfInBounds_toArray, List.set_cons_zero, List.set_cons_succ]
                    refine wpAnyH_done (by kernel_rfl) ?_ _
                    have hB9 := below2 (below2 hbD bA) bB
                    have p9 := p6.below hB9
                    have e9n := (hB9.block H2 (Array.getElem?_eq_some_iff.1 e6n).1).trans e6n
                    have n90 : wB.cell? ⟨H2, 0, none⟩ = some (.string bs) := by simp [World.cell?, e9n]
                    have n91 : wB.cell? ⟨H2, 1, none⟩ = some (.slice a4 R.length c4) := by simp [World.cell?, e9n]
                    have ba := below_alloc1 wB (.cells #[.string bs, .slice a4 R.length c4] 35)
                    have r9 := r6.kept (fun k e => (below2 hB9 ba).block k (r6.blk e).2)
                    obtain ⟨M', hM'⟩ : ∃ M', M' = M ++ [⟨bs, .slice a4 R.length c4, R⟩] := ⟨_, rfl⟩
                    have HM : Hid (M' = M ++ [⟨bs, .slice a4 R.length c4, R⟩]) := hM'
                    have R6 : Hid (Row (wB.alloc (.cells #[.string bs, .slice a4 R.length c4] 35)) w2.heap.size (.slice a4 R.length c4) R) := r9
                    have P6 : Hid (Px w2 (wB.alloc (.cells #[.string bs, .slice a4 R.length c4] 35)) lb g gs 64 (b + (m + 4)) bs recs true (fun T => T = bs :: recs ∨ Q T) nb bs (.slice an recs.length cn) recs (.slice a2 M.length c2) M Y) := p9.below ba
                    have Y6 : Hid (∀ k, (Value.slice a4 R.length c4).ownBlock = some k → footS nb (.slice an recs.length cn) (.slice a2 M.length c2) M k ∨ Y k) := hY6
                    clear p9 p6 hB9 e9n e6n ba r9 r6 hM' kS9 cSe cSa hbD bA bB rA hY6
                    go_wp2_with (at_builtin; refine wpList_append_state _ rfl (.tmp 157) (.tmp 159) rfl rfl P6.out.nw wB.heap.size ⟨bs, .slice a4 R.length c4, R⟩ rfl (by go_simp) (by go_simp) R6.out (by omega) P6.out.lx.bel.size ?_; intro v7 w7 n7 f7 g7; have p7 := P6.out.push n7 f7 g7 Y6.out; rw [← HM.out] at p7; obtain ⟨a7, c7, hv7, _⟩ := p7.nw.sts.len; subst hv7; clear n7 f7 g7)
                    have hlen7 : M'.length = M.length + 1 := by rw [HM.out]; simp
                    have HC0 : Hid (∃ s ∈ M', bs :: recs = s.base :: s.recs) := by
                      obtain ⟨s, hs, e⟩ := HC.out
                      exact ⟨s, by rw [HM.out]; exact List.mem_append_left _ hs, e⟩
                    have HC7 : Hid (∃ s ∈ M', bs :: R = s.base :: s.recs) := ⟨_, by rw [HM.out]; exact List.mem_append_right _ (List.mem_cons_self ..), rfl⟩
                    have HB7 : Hid (M'.length ≤ i + 1 + 1) := by show _ ≤ _; omega
                    have HQ7 : Hid (∀ T, (T = bs :: recs ∨ Q T) → ∃ s ∈ M', T = s.base :: s.recs) := by
                      rintro T (rfl | h)
                      · exact HC0.out
                      · obtain ⟨s, hs, e⟩ := HQ.out T h
                        exact ⟨s, by rw [HM.out]; exact List.mem_append_left _ hs, e⟩
                    clear P6 HM hlen7 R6 Y6
                    go_wp2_with fail
                    go_roundw
                    case rel => exact ⟨i + 1, (b + (m + 4)), cn, c7, an, a7, bs, recs, M', _, true, 42, by omega, rfl, rfl, by go_num, by omega, HB7.out, HQ7, HC0, Or.inr ⟨rfl, Or.inr rfl⟩, (p7).less (Z := fun _ => False) (fun _ x => False.elim x)⟩
                    case measure => simp [intOf]; omega
            · as_aux_lemma =>
                have hE0 : (E == 0) = false := by rcases hE with rfl | rfl <;> rfl
                refine (down_append pz.lx text).mono ?_
                rintro e w6 ⟨rfl, e6w⟩
                rw [e6w]
                clear e6w ez ezn rz hYz
                go_wp2_with fail
                have hbD := below_drew Wz
                have kS9 : ∀ U, Below Wz.heap.size Wz U → U.cell? ⟨nb, 0, none⟩ = some (.string bs) ∧ U.cell? ⟨nb, 1, none⟩ = some (.slice an recs.length cn) := fun U h => ⟨(pz.below h).nw.cells.1, (pz.below h).nw.cells.2.1⟩
                have cSe := fun U (h : Below Wz.heap.size Wz U) => fault_seen (pz.below h).lx
                have cSa := fun U v B (h : Below Wz.heap.size Wz U) (r : Row U B v recs) => refSame_true (b1 := bs) r (pz.below h).nw.nrow (by omega)
                have hB := hbD
                go_region_held3 (fun U => U.cell? ⟨nb, 0, none⟩ = some (.string bs) ∧ U.cell? ⟨nb, 1, none⟩ = some (.slice an recs.length cn))
                  (exact kS9 _ hB)
                  (first
                    | (go_at_call 21; refine (cSe _ hB).mono ?_; rintro e wA ⟨v, rfl, rA, bA⟩; have hB := below2 hB bA)
                    | (go_at_call 22; refine (cSa _ _ _ hB rA).mono ?_; rintro e wB ⟨rfl, bB⟩; have hB := below2 hB bB))
                clear cSe cSa kS9
                go_wp2_with fail
                go_roundw
                case rel => exact ⟨i + 1, b, cn, c2, an, a2, bs, recs, M, _, true, E, by omega, rfl, rfl, by go_num, by omega, by omega, HQ, HC, Or.inr ⟨rfl, hE⟩, (pz.below hB).less (Z := fun _ => False) (fun _ x => False.elim x)⟩
                case measure => simp [intOf]; omega
      have g0 : (kind == 0) = false := by rw [beq_eq_false_iff_ne]; exact k0
      by_cases k1 : kind = 1
      · as_aux_lemma =>
          have g1 : (kind == 1) = true := by simpa using k1
          clear k1 k0
          go_wp2_with fail
          obtain ⟨H, hH⟩ : ∃ H, wr.heap.size = H := ⟨_, rfl⟩
          generalize (wr.alloc (.cells #[.int .i64 kind, .string text, .slice ka KL.length kc] 40)).alloc (.cells #[.string bs, .slice an recs.length cn] 35) = Wz at p1 e1 e1n HH ⊢
          rw [hH] at p1 e1 e1n HH hfo ⊢
          obtain ⟨H2, hH2⟩ : ∃ H2, H + 1 = H2 := ⟨_, rfl⟩
          rw [hH2] at p1 e1n HH ⊢
          clear hH s0 s1 s2 c1k c1t y10 y11
          obtain ⟨Y, hYd⟩ : ∃ Y : Nat → Prop, (fun k => k = H ∨ k = H2) = Y := ⟨_, rfl⟩
          have hYz : ∀ k, (Value.slice an recs.length cn).ownBlock = some k → footS nb (.slice an recs.length cn) (.slice a2 M.length c2) M k ∨ Y k := fun k e => Or.inl (Or.inr (Or.inl e))
          have hYH : Hid (Y H) := by show Y H; rw [← hYd]; exact Or.inl rfl
          have hYH2 : Hid (Y H2) := by show Y H2; rw [← hYd]; exact Or.inr rfl
          have pz := p1
          have ez := e1
          have ezn := e1n
          have rz := p1.nw.nrow
          rw [hYd] at pz
          clear p1 e1 e1n hYd HH hH2
          rcases hT with ⟨rfl, rfl⟩ | ⟨rfl, hE⟩
          · as_aux_lemma =>
              refine (fault_flush pz.lx (by omega)).mono ?_
              rintro e w6 ⟨E', rfl, k6, hE'⟩
              have e6 := (k6.2 H (Or.inr (hYH.out))).trans ez
              have e6n := (k6.2 H2 (Or.inr (hYH2.out))).trans ezn
              have r6 := rz.kept (fun k e => k6.2 k (hYz k e))
              have hY6 := hYz
              rcases hE' with ⟨rfl, l6⟩ | ⟨rfl | rfl, l6⟩
              · have p6 := pz.did l6 k6
                clear l6 k6 pz ez ezn rz hYz
                have p6b := p6
                obtain ⟨y60, y61, z60, z61⟩ := p6.nw.cells
                have n60 : w6.cell? ⟨H2, 0, none⟩ = some (.string bs) := by simp [World.cell?, e6n]
                have n61 : w6.cell? ⟨H2, 1, none⟩ = some (.slice an recs.length cn) := by simp [World.cell?, e6n]
                have p8 := p6b.put bs (.slice an recs.length cn) recs r6 hY6
                obtain ⟨y80, y81, _, _⟩ := p8.nw.cells
                have hs8 : ((w6.setCell ⟨nb, 0, none⟩ (.string bs)).setCell ⟨nb, 1, none⟩ (.slice an recs.length cn)).heap.size = w6.heap.size := by simp
                have ba := below_alloc1 ((w6.setCell ⟨nb, 0, none⟩ (.string bs)).setCell ⟨nb, 1, none⟩ (.slice an recs.length cn)) (.cells #[.string bs, .slice an recs.length cn] 35)
                obtain ⟨M', hM'⟩ : ∃ M', M' = M ++ [⟨bs, .slice an recs.length cn, recs⟩] := ⟨_, rfl⟩
                have HM : Hid (M' = M ++ [⟨bs, .slice an recs.length cn, recs⟩]) := hM'
                have P6 : Hid (Px w2 (((w6.setCell ⟨nb, 0, none⟩ (.string bs)).setCell ⟨nb, 1, none⟩ (.slice an recs.length cn)).alloc (.cells #[.string bs, .slice an recs.length cn] 35)) lb g gs 64 (b + 1) bs recs false (fun _ => False) nb bs (.slice an recs.length cn) recs (.slice a2 M.length c2) M Y) := p8.below ba
                have R6 : Hid (Row (((w6.setCell ⟨nb, 0, none⟩ (.string bs)).setCell ⟨nb, 1, none⟩ (.slice an recs.length cn)).alloc (.cells #[.string bs, .slice an recs.length cn] 35)) w2.heap.size (.slice an recs.length cn) recs) := P6.out.nw.nrow
                have Y6 : Hid (∀ k, (Value.slice an recs.length cn).ownBlock = some k → footS nb (.slice an recs.length cn) (.slice a2 M.length c2) M k ∨ Y k) := fun k e => Or.inl (Or.inr (Or.inl e))
                have F7 : ∀ w7, Fr (fun k => (Value.slice a2 M.length c2).ownBlock = some k) (((w6.setCell ⟨nb, 0, none⟩ (.string bs)).setCell ⟨nb, 1, none⟩ (.slice an recs.length cn)).alloc (.cells #[.string bs, .slice an recs.length cn] 35)) w7 → w7.cell? ⟨H, 0, none⟩ = some (.int .i64 kind) := fun w7 f7 => by
                  have hlt6 := (Array.getElem?_eq_some_iff.1 e6).1
                  have hnn : H ≠ nb := fun e => by have := hfo nb (Or.inl rfl); omega
                  have q1 := f7.block H (by simp; omega) (fun e => by have := hfo H (Or.inr (Or.inr (Or.inl e))); omega)
                  have q2 := ba.block H (by simp; omega)
                  have q3 := (Below.heap_setCell (w6.setCell ⟨nb, 0, none⟩ (.string bs)) ⟨nb, 1, none⟩ (.slice an recs.length cn) H hnn).trans (Below.heap_setCell w6 ⟨nb, 0, none⟩ (.string bs) H hnn)
                  have q := q1.trans (q2.trans (q3.trans e6))
                  simp [World.cell?, q]
                clear p8 p6 p6b e6n e6 ba r6 hM' hY6 hs8
                go_wp2_with (at_builtin; refine wpList_append_state _ rfl (.tmp 162) (.tmp 164) rfl rfl P6.out.nw w6.heap.size ⟨bs, .slice an recs.length cn, recs⟩ rfl (by go_simp) (by go_simp) R6.out (by omega) P6.out.lx.bel.size ?_; intro v7 w7 n7 f7 g7; have e7k := F7 w7 f7; have p7 := P6.out.push n7 f7 g7 Y6.out; rw [← HM.out] at p7; obtain ⟨a7, c7, hv7, _⟩ := p7.nw.sts.len; subst hv7; obtain ⟨y70, y71, _, _⟩ := p7.nw.cells; have p8 := p7.one; clear n7 f7 g7)
                have hlen7 : M'.length = M.length + 1 := by rw [HM.out]; simp
                have HC0 : Hid (∃ s ∈ M', bs :: recs = s.base :: s.recs) := by
                  obtain ⟨s, hs, e⟩ := HC.out
                  exact ⟨s, by rw [HM.out]; exact List.mem_append_left _ hs, e⟩
                have HC7 : Hid (∃ s ∈ M', bs :: recs = s.base :: s.recs) := ⟨_, by rw [HM.out]; exact List.mem_append_right _ (List.mem_cons_self ..), rfl⟩
                have HB7 : Hid (M'.length ≤ i + 1 + 1) := by show _ ≤ _; omega
                clear P6 HM hlen7 R6 Y6 HC0 HC7 HB7
                go_roundw
                case rel => exact ⟨i + 1, (b + 1), cn, 1, an, _, bs, recs, [⟨bs, .slice an recs.length cn, recs⟩], _, false, 0, by omega, rfl, rfl, by go_num, by omega, by simp, (fun _ (h : False) => h.elim), ⟨_, List.mem_cons_self .., rfl⟩, Or.inl ⟨rfl, rfl⟩, (p8).less (Z := fun _ => False) (fun _ x => False.elim x)⟩
                case measure => simp [intOf]; omega
              · as_aux_lemma =>
                  have p6 := pz.did l6 k6
                  clear l6 k6 pz ez ezn rz hYz e6
                  have hbD := below_drew w6
                  have kS9 : ∀ U, Below w6.heap.size w6 U → U.cell? ⟨nb, 0, none⟩ = some (.string bs) ∧ U.cell? ⟨nb, 1, none⟩ = some (.slice an recs.length cn) := fun U h => ⟨(p6.below h).nw.cells.1, (p6.below h).nw.cells.2.1⟩
                  have cSe := fun U (h : Below w6.heap.size w6 U) => fault_seen (p6.below h).lx
                  have cSa := fun U v B (h : Below w6.heap.size w6 U) (r : Row U B v recs) => refSame_true (b1 := bs) r (p6.below h).nw.nrow (by omega)
                  go_wp2_with fail
                  refine wp_region_held_drew (S := (fun U => U.cell? ⟨nb, 0, none⟩ = some (.string bs) ∧ U.cell? ⟨nb, 1, none⟩ = some (.slice an recs.length cn))) (by kernel_rfl) (kS9 _ hbD) (fun hHeld => ?_)
                  refine takeD 0 143 (v := .int .i64 41) rfl rfl (by kernel_rfl) (by kernel_rfl) (by kernel_rfl) (fun _ _ _ h => h) (Or.inl ⟨by rfl, by (intro w hSw; (try dsimp only at hSw); go_simp)⟩) hHeld ?_
                  simp only [List.setIfInBounds_toArray, List.set_cons_zero, List.set_cons_succ]
                  refine takeD 1 144 (v := .bool false) rfl rfl (by kernel_rfl) (by kernel_rfl) (by kernel_rfl) (fun _ _ _ h => h) (Or.inl ⟨by rfl, by (intro w hSw; (try dsimp only at hSw); go_simp)⟩) hHeld ?_
                  simp only [List.setIfInBounds_toArray, List.set_cons_zero, List.set_cons_succ]
                  refine takeD 2 145 (v := .bool false) rfl rfl (by kernel_rfl) (by kernel_rfl) (by kernel_rfl) (fun _ _ _ h => h) (Or.inl ⟨by rfl, by (intro w hSw; (try dsimp only at hSw); go_simp)⟩) hHeld ?_
                  simp only [List.setIfInBounds_toArray, List.set_cons_zero, List.set_cons_succ]
                  refine takeD 3 146 (v := undef) rfl rfl (by kernel_rfl) (by kernel_rfl) (by kernel_rfl) (fun _ _ _ h => h) (Or.inr ⟨by kernel_rfl, rfl⟩) hHeld ?_
                  simp only [List.setIfInBounds_toArray, List.set_cons_zero, List.set_cons_succ]
                  refine takeD 4 147 (v := undef) rfl rfl (by kernel_rfl) (by kernel_rfl) (by kernel_rfl) (fun _ _ _ h => h) (Or.inr ⟨by kernel_rfl, rfl⟩) hHeld ?_
                  simp only [List.setIfInBounds_toArray, List.set_cons_zero, List.set_cons_succ]
                  refine takeD 5 148 (v := .bool false) rfl rfl (by kernel_rfl) (by kernel_rfl) (by kernel_rfl) (fun _ _ _ h => h) (Or.inl ⟨by rfl, by (intro w hSw; (try dsimp only at hSw); go_simp)⟩) hHeld ?_
                  simp only [List.setIfInBounds_toArray, List.set_cons_zero, List.set_cons_succ]
                  refine takeD 6 149 (v := .bool false) rfl rfl (by kernel_rfl) (by kernel_rfl) (by kernel_rfl) (fun _ _ _ h => h) (Or.inl ⟨by rfl, by (intro w hSw; (try dsimp only at hSw); go_simp)⟩) hHeld ?_
                  simp only [List.setIfInBounds_toArray, List.set_cons_zero, List.set_cons_succ]
                  refine takeD 7 150 (v := .pointer (some ⟨lb, 0, none⟩)) rfl rfl (by kernel_rfl) (by kernel_rfl) (by kernel_rfl) (fun _ _ _ h => h) (Or.inl ⟨by rfl, by (intro w hSw; (try dsimp only at hSw); go_simp)⟩) hHeld ?_
                  simp only [List.setIfInBounds_toArray, List.set_cons_zero, List.set_cons_succ]
                  refine takeD 9 152 (v := .agg #[.string bs, .slice an recs.length cn]) rfl rfl (by kernel_rfl) (by kernel_rfl) (by kernel_rfl) (fun _ _ _ h => h) (Or.inl ⟨by rfl, by (intro w hSw; (try dsimp only at hSw); go_simp)⟩) hHeld ?_
                  simp only [List.setIfInBounds_toArray, List.set_cons_zero, List.set_cons_succ]
                  refine wpAnyH_ready (rs := [8]) (by kernel_rfl) (by simp) ?_
                  refine AllReadyH.cons rfl (fun K hK => ?_) AllReadyH.nil
                  go_simp
                  refine (cSe _ hbD).mono ?_
                  rintro e wA ⟨v, rfl, rA, bA⟩
                  go_simp
                  refine hK.out _ _ (kS9 _ (below2 hbD bA)) (fun hHeld => ?_)
                  clear hK K
                  refine wpAnyH_ready (rs := [10]) (by kernel_rfl) (by simp) ?_
                  refine AllReadyH.cons rfl (fun K hK => ?_) AllReadyH.nil
                  go_simp
                  refine (cSa _ _ _ (below2 hbD bA) rA).mono ?_
                  rintro e wB ⟨rfl, bB⟩
                  go_simp
                  refine hK.out _ _ (kS9 _ (below2 (below2 hbD bA) bB)) (fun hHeld => ?_)
                  clear hK K
                  refine takeD 11 154 (v := .bool false) rfl rfl (by kernel_rfl) (by kernel_rfl) (by kernel_rfl) (fun _ _ _ h => h) (Or.inl ⟨by rfl, by (intro w hSw; (try dsimp only at hSw); go_simp)⟩) hHeld ?_
                  simp only [List.setIfInBounds_toArray, List.set_cons_zero, List.set_cons_succ]
                  refine takeD 12 155 (v := .bool false) rfl rfl (by kernel_rfl) (by kernel_rfl) (by kernel_rfl) (fun _ _ _ h => h) (Or.inl ⟨by rfl, by (intro w hSw; (try dsimp only at hSw); go_simp)⟩) hHeld ?_
                  simp only [List.setIfInBounds_toArray, List.set_cons_zero, List.set_cons_succ]
                  refine wpAnyH_done (by kernel_rfl) ?_ _
                  have hB9 := below2 (below2 hbD bA) bB
                  have p9 := p6.below hB9
                  have e9n := (hB9.block H2 (Array.getElem?_eq_some_iff.1 e6n).1).trans e6n
                  have n90 : wB.cell? ⟨H2, 0, none⟩ = some (.string bs) := by simp [World.cell?, e9n]
                  have n91 : wB.cell? ⟨H2, 1, none⟩ = some (.slice an recs.length cn) := by simp [World.cell?, e9n]
                  have ba := below_alloc1 wB (.cells #[.string bs, .slice an recs.length cn] 35)
                  have r9 := r6.kept (fun k e => (below2 hB9 ba).block k (r6.blk e).2)
                  obtain ⟨M', hM'⟩ : ∃ M', M' = M ++ [⟨bs, .slice an recs.length cn, recs⟩] := ⟨_, rfl⟩
                  have HM : Hid (M' = M ++ [⟨bs, .slice an recs.length cn, recs⟩]) := hM'
                  have R6 : Hid (Row (wB.alloc (.cells #[.string bs, .slice an recs.length cn] 35)) w2.heap.size (.slice an recs.length cn) recs) := r9
                  have P6 : Hid (Px w2 (wB.alloc (.cells #[.string bs, .slice an recs.length cn] 35)) lb g gs 64 (b + 1) bs recs true (fun T => T = bs :: recs ∨ Q T) nb bs (.slice an recs.length cn) recs (.slice a2 M.length c2) M Y) := p9.below ba
                  have Y6 : Hid (∀ k, (Value.slice an recs.length cn).ownBlock = some k → footS nb (.slice an recs.length cn) (.slice a2 M.length c2) M k ∨ Y k) := hY6
                  clear p9 p6 hB9 e9n e6n ba r9 r6 hM' kS9 cSe cSa hbD bA bB rA hY6
                  go_wp2_with (at_builtin; refine wpList_append_state _ rfl (.tmp 157) (.tmp 159) rfl rfl P6.out.nw wB.heap.size ⟨bs, .slice an recs.length cn, recs⟩ rfl (by go_simp) (by go_simp) R6.out (by omega) P6.out.lx.bel.size ?_; intro v7 w7 n7 f7 g7; have p7 := P6.out.push n7 f7 g7 Y6.out; rw [← HM.out] at p7; obtain ⟨a7, c7, hv7, _⟩ := p7.nw.sts.len; subst hv7; clear n7 f7 g7)
                  have hlen7 : M'.length = M.length + 1 := by rw [HM.out]; simp
                  have HC0 : Hid (∃ s ∈ M', bs :: recs = s.base :: s.recs) := by
                    obtain ⟨s, hs, e⟩ := HC.out
                    exact ⟨s, by rw [HM.out]; exact List.mem_append_left _ hs, e⟩
                  have HC7 : Hid (∃ s ∈ M', bs :: recs = s.base :: s.recs) := ⟨_, by rw [HM.out]; exact List.mem_append_right _ (List.mem_cons_self ..), rfl⟩
                  have HB7 : Hid (M'.length ≤ i + 1 + 1) := by show _ ≤ _; omega
                  have HQ7 : Hid (∀ T, (T = bs :: recs ∨ Q T) → ∃ s ∈ M', T = s.base :: s.recs) := by
                    rintro T (rfl | h)
                    · exact HC0.out
                    · obtain ⟨s, hs, e⟩ := HQ.out T h
                      exact ⟨s, by rw [HM.out]; exact List.mem_append_left _ hs, e⟩
                  clear P6 HM hlen7 R6 Y6
                  go_wp2_with fail
                  go_roundw
                  case rel => exact ⟨i + 1, (b + 1), cn, c7, an, a7, bs, recs, M', _, true, 41, by omega, rfl, rfl, by go_num, by omega, HB7.out, HQ7, HC0, Or.inr ⟨rfl, Or.inl rfl⟩, (p7).less (Z := fun _ => False) (fun _ x => False.elim x)⟩
                  case measure => simp [intOf]; omega
              · as_aux_lemma =>
                  have p6 := pz.did l6 k6
                  clear l6 k6 pz ez ezn rz hYz e6
                  have hbD := below_drew w6
                  have kS9 : ∀ U, Below w6.heap.size w6 U → U.cell? ⟨nb, 0, none⟩ = some (.string bs) ∧ U.cell? ⟨nb, 1, none⟩ = some (.slice an recs.length cn) := fun U h => ⟨(p6.below h).nw.cells.1, (p6.below h).nw.cells.2.1⟩
                  have cSe := fun U (h : Below w6.heap.size w6 U) => fault_seen (p6.below h).lx
                  have cSa := fun U v B (h : Below w6.heap.size w6 U) (r : Row U B v recs) => refSame_true (b1 := bs) r (p6.below h).nw.nrow (by omega)
                  go_wp2_with fail
                  refine wp_region_held_drew (S := (fun U => U.cell? ⟨nb, 0, none⟩ = some (.string bs) ∧ U.cell? ⟨nb, 1, none⟩ = some (.slice an recs.length cn))) (by kernel_rfl) (kS9 _ hbD) (fun hHeld => ?_)
                  refine takeD 0 143 (v := .int .i64 42) rfl rfl (by kernel_rfl) (by kernel_rfl) (by kernel_rfl) (fun _ _ _ h => h) (Or.inl ⟨by rfl, by (intro w hSw; (try dsimp only at hSw); go_simp)⟩) hHeld ?_
                  simp only [List.setIfInBounds_toArray, List.set_cons_zero, List.set_cons_succ]
                  refine takeD 1 144 (v := .bool true) rfl rfl (by kernel_rfl) (by kernel_rfl) (by kernel_rfl) (fun _ _ _ h => h) (Or.inl ⟨by rfl, by (intro w hSw; (try dsimp only at hSw); go_simp)⟩) hHeld ?_
                  simp only [List.setIfInBounds_toArray, List.set_cons_zero, List.set_cons_succ]
                  refine takeD 2 145 (v := .bool true) rfl rfl (by kernel_rfl) (by kernel_rfl) (by kernel_rfl) (fun _ _ _ h => h) (Or.inl ⟨by rfl, by (intro w hSw; (try dsimp only at hSw); go_simp)⟩) hHeld ?_
                  simp only [List.setIfInBounds_toArray, List.set_cons_zero, List.set_cons_succ]
                  refine takeD 3 146 (v := .int .i64 42) rfl rfl (by kernel_rfl) (by kernel_rfl) (by kernel_rfl) (fun _ _ _ h => h) (Or.inl ⟨by rfl, by (intro w hSw; (try dsimp only at hSw); go_simp)⟩) hHeld ?_
                  simp only [List.setIfInBounds_toArray, List.set_cons_zero, List.set_cons_succ]
                  refine takeD 4 147 (v := .bool false) rfl rfl (by kernel_rfl) (by kernel_rfl) (by kernel_rfl) (fun _ _ _ h => h) (Or.inl ⟨by rfl, by (intro w hSw; (try dsimp only at hSw); go_simp)⟩) hHeld ?_
                  simp only [List.setIfInBounds_toArray, List.set_cons_zero, List.set_cons_succ]
                  refine takeD 5 148 (v := .bool false) rfl rfl (by kernel_rfl) (by kernel_rfl) (by kernel_rfl) (fun _ _ _ h => h) (Or.inl ⟨by rfl, by (intro w hSw; (try dsimp only at hSw); go_simp)⟩) hHeld ?_
                  simp only [List.setIfInBounds_toArray, List.set_cons_zero, List.set_cons_succ]
                  refine takeD 6 149 (v := .bool false) rfl rfl (by kernel_rfl) (by kernel_rfl) (by kernel_rfl) (fun _ _ _ h => h) (Or.inl ⟨by rfl, by (intro w hSw; (try dsimp only at hSw); go_simp)⟩) hHeld ?_
                  simp only [List.setIfInBounds_toArray, List.set_cons_zero, List.set_cons_succ]
                  refine takeD 7 150 (v := .pointer (some ⟨lb, 0, none⟩)) rfl rfl (by kernel_rfl) (by kernel_rfl) (by kernel_rfl) (fun _ _ _ h => h) (Or.inl ⟨by rfl, by (intro w hSw; (try dsimp only at hSw); go_simp)⟩) hHeld ?_
                  simp only [List.setIfInBounds_toArray, List.set_cons_zero, List.set_cons_succ]
                  refine takeD 9 152 (v := .agg #[.string bs, .slice an recs.length cn]) rfl rfl (by kernel_rfl) (by kernel_rfl) (by kernel_rfl) (fun _ _ _ h => h) (Or.inl ⟨by rfl, by (intro w hSw; (try dsimp only at hSw); go_simp)⟩) hHeld ?_
                  simp only [List.setIfInBounds_toArray, List.set_cons_zero, List.set_cons_succ]
                  refine wpAnyH_ready (rs := [8]) (by kernel_rfl) (by simp) ?_
                  refine AllReadyH.cons rfl (fun K hK => ?_) AllReadyH.nil
                  go_simp
                  refine (cSe _ hbD).mono ?_
                  rintro e wA ⟨v, rfl, rA, bA⟩
                  go_simp
                  refine hK.out _ _ (kS9 _ (below2 hbD bA)) (fun hHeld => ?_)
                  clear hK K
                  refine wpAnyH_ready (rs := [10]) (by kernel_rfl) (by simp) ?_
                  refine AllReadyH.cons rfl (fun K hK => ?_) AllReadyH.nil
                  go_simp
                  refine (cSa _ _ _ (below2 hbD bA) rA).mono ?_
                  rintro e wB ⟨rfl, bB⟩
                  go_simp
                  refine hK.out _ _ (kS9 _ (below2 (below2 hbD bA) bB)) (fun hHeld => ?_)
                  clear hK K
                  refine takeD 11 154 (v := .bool false) rfl rfl (by kernel_rfl) (by kernel_rfl) (by kernel_rfl) (fun _ _ _ h => h) (Or.inl ⟨by rfl, by (intro w hSw; (try dsimp only at hSw); go_simp)⟩) hHeld ?_
                  simp only [List.setIfInBounds_toArray, List.set_cons_zero, List.set_cons_succ]
                  refine takeD 12 155 (v := .bool false) rfl rfl (by kernel_rfl) (by kernel_rfl) (by kernel_rfl) (fun _ _ _ h => h) (Or.inl ⟨by rfl, by (intro w hSw; (try dsimp only at hSw); go_simp)⟩) hHeld ?_
                  simp only [List.setIfInBounds_toArray, List.set_cons_zero, List.set_cons_succ]
                  refine wpAnyH_done (by kernel_rfl) ?_ _
                  have hB9 := below2 (below2 hbD bA) bB
                  have p9 := p6.below hB9
                  have e9n := (hB9.block H2 (Array.getElem?_eq_some_iff.1 e6n).1).trans e6n
                  have n90 : wB.cell? ⟨H2, 0, none⟩ = some (.string bs) := by simp [World.cell?, e9n]
                  have n91 : wB.cell? ⟨H2, 1, none⟩ = some (.slice an recs.length cn) := by simp [World.cell?, e9n]
                  have ba := below_alloc1 wB (.cells #[.string bs, .slice an recs.length cn] 35)
                  have r9 := r6.kept (fun k e => (below2 hB9 ba).block k (r6.blk e).2)
                  obtain ⟨M', hM'⟩ : ∃ M', M' = M ++ [⟨bs, .slice an recs.length cn, recs⟩] := ⟨_, rfl⟩
                  have HM : Hid (M' = M ++ [⟨bs, .slice an recs.length cn, recs⟩]) := hM'
                  have R6 : Hid (Row (wB.alloc (.cells #[.string bs, .slice an recs.length cn] 35)) w2.heap.size (.slice an recs.length cn) recs) := r9
                  have P6 : Hid (Px w2 (wB.alloc (.cells #[.string bs, .slice an recs.length cn] 35)) lb g gs 64 (b + 1) bs recs true (fun T => T = bs :: recs ∨ Q T) nb bs (.slice an recs.length cn) recs (.slice a2 M.length c2) M Y) := p9.below ba
                  have Y6 : Hid (∀ k, (Value.slice an recs.length cn).ownBlock = some k → footS nb (.slice an recs.length cn) (.slice a2 M.length c2) M k ∨ Y k) := hY6
                  clear p9 p6 hB9 e9n e6n ba r9 r6 hM' kS9 cSe cSa hbD bA bB rA hY6
                  go_wp2_with (at_builtin; refine wpList_append_state _ rfl (.tmp 157) (.tmp 159) rfl rfl P6.out.nw wB.heap.size ⟨bs, .slice an recs.length cn, recs⟩ rfl (by go_simp) (by go_simp) R6.out (by omega) P6.out.lx.bel.size ?_; intro v7 w7 n7 f7 g7; have p7 := P6.out.push n7 f7 g7 Y6.out; rw [← HM.out] at p7; obtain ⟨a7, c7, hv7, _⟩ := p7.nw.sts.len; subst hv7; clear n7 f7 g7)
                  have hlen7 : M'.length = M.length + 1 := by rw [HM.out]; simp
                  have HC0 : Hid (∃ s ∈ M', bs :: recs = s.base :: s.recs) := by
                    obtain ⟨s, hs, e⟩ := HC.out
                    exact ⟨s, by rw [HM.out]; exact List.mem_append_left _ hs, e⟩
                  have HC7 : Hid (∃ s ∈ M', bs :: recs = s.base :: s.recs) := ⟨_, by rw [HM.out]; exact List.mem_append_right _ (List.mem_cons_self ..), rfl⟩
                  have HB7 : Hid (M'.length ≤ i + 1 + 1) := by show _ ≤ _; omega
                  have HQ7 : Hid (∀ T, (T = bs :: recs ∨ Q T) → ∃ s ∈ M', T = s.base :: s.recs) := by
                    rintro T (rfl | h)
                    · exact HC0.out
                    · obtain ⟨s, hs, e⟩ := HQ.out T h
                      exact ⟨s, by rw [HM.out]; exact List.mem_append_left _ hs, e⟩
                  clear P6 HM hlen7 R6 Y6
                  go_wp2_with fail
                  go_roundw
                  case rel => exact ⟨i + 1, (b + 1), cn, c7, an, a7, bs, recs, M', _, true, 42, by omega, rfl, rfl, by go_num, by omega, HB7.out, HQ7, HC0, Or.inr ⟨rfl, Or.inr rfl⟩, (p7).less (Z := fun _ => False) (fun _ x => False.elim x)⟩
                  case measure => simp [intOf]; omega
          · as_aux_lemma =>
              have hE0 : (E == 0) = false := by rcases hE with rfl | rfl <;> rfl
              refine (down_flush pz.lx).mono ?_
              rintro e w6 ⟨rfl, e6w⟩
              rw [e6w]
              clear e6w ez ezn rz hYz
              go_wp2_with fail
              have hbD := below_drew Wz
              have kS9 : ∀ U, Below Wz.heap.size Wz U → U.cell? ⟨nb, 0, none⟩ = some (.string bs) ∧ U.cell? ⟨nb, 1, none⟩ = some (.slice an recs.length cn) := fun U h => ⟨(pz.below h).nw.cells.1, (pz.below h).nw.cells.2.1⟩
              have cSe := fun U (h : Below Wz.heap.size Wz U) => fault_seen (pz.below h).lx
              have cSa := fun U v B (h : Below Wz.heap.size Wz U) (r : Row U B v recs) => refSame_true (b1 := bs) r (pz.below h).nw.nrow (by omega)
              have hB := hbD
              go_region_held3 (fun U => U.cell? ⟨nb, 0, none⟩ = some (.string bs) ∧ U.cell? ⟨nb, 1, none⟩ = some (.slice an recs.length cn))
                (exact kS9 _ hB)
                (first
                  | (go_at_call 21; refine (cSe _ hB).mono ?_; rintro e wA ⟨v, rfl, rA, bA⟩; have hB := below2 hB bA)
                  | (go_at_call 22; refine (cSa _ _ _ hB rA).mono ?_; rintro e wB ⟨rfl, bB⟩; have hB := below2 hB bB))
              clear cSe cSa kS9
              go_wp2_with fail
              go_roundw
              case rel => exact ⟨i + 1, b, cn, c2, an, a2, bs, recs, M, _, true, E, by omega, rfl, rfl, by go_num, by omega, by omega, HQ, HC, Or.inr ⟨rfl, hE⟩, (pz.below hB).less (Z := fun _ => False) (fun _ x => False.elim x)⟩
              case measure => simp [intOf]; omega
      have g1 : (kind == 1) = false := by rw [beq_eq_false_iff_ne]; exact k1
      have g2 : (kind == 2) = true := by rw [beq_iff_eq]; omega
      clear k0 k1
      as_aux_lemma =>
        obtain ⟨m, hm⟩ : ∃ m, m = secs text := ⟨_, rfl⟩
        have hm7 : m ≤ 7 := by rw [hm]; unfold secs; omega
        have cR := fun (V : World) => refRoom_any 64 (by omega) (by omega) text (by omega) 0 (.slice none 0 0) [] V (Or.inl ⟨rfl, rfl⟩) (by simp) (by simp)
        rw [show secsL [text] = secs text from rfl, ← hm] at cR
        obtain ⟨rm, hrm⟩ : ∃ rm : Int, rm = (areaN 64 : Int) - (m : Int) := ⟨_, rfl⟩
        rw [← hrm] at cR
        have HRM : Hid (rm = (areaN 64 : Int) - (m : Int) ∧ m = secs text) := ⟨hrm, hm⟩
        clear hm hrm
        go_wp2_with fail
        obtain ⟨H, hH⟩ : ∃ H, wr.heap.size = H := ⟨_, rfl⟩
        generalize (wr.alloc (.cells #[.int .i64 kind, .string text, .slice ka KL.length kc] 40)).alloc (.cells #[.string bs, .slice an recs.length cn] 35) = W1 at p1 e1 e1n HH ⊢
        rw [hH] at p1 e1 e1n HH hfo ⊢
        obtain ⟨H2, hH2⟩ : ∃ H2, H + 1 = H2 := ⟨_, rfl⟩
        rw [hH2] at p1 e1n HH ⊢
        have hHH : Hid (H < H2) := by show H < H2; omega
        clear hH hH2 s0 s1 s2 c1k c1t y10 y11
        refine (cR _).mono ?_
        rintro e W2 ⟨rfl, hB2⟩
        have p2 := p1.below hB2
        have e2 := (hB2.block H HH.1).trans e1
        have e2n := (hB2.block H2 HH.2).trans e1n
        have c2t : W2.cell? ⟨H, 1, none⟩ = some (.string text) := by simp [World.cell?, e2]
        clear cR p1 e1 e1n HH hB2
        by_cases hfu : rm < 0
        · go_wp2_with fail
          go_roundw
          case rel => exact ⟨i + 1, b, cn, c2, an, a2, bs, recs, M, _, u, E, by omega, rfl, rfl, by go_num, by omega, by omega, HQ, HC, hT, (p2).less (Z := fun _ => False) (fun _ x => False.elim x)⟩
          case measure => simp [intOf]; omega
        · have hfits : secs text ≤ areaN 64 := by have := HRM.out; omega
          have HF : Hid (secs text ≤ areaN 64) := hfits
          have hw2H : w2.heap.size ≤ H := by have := hfo nb (Or.inl rfl); have := p2.nw.nB; omega
          have q0 : W2.cell? ⟨H2, 0, none⟩ = some (.string bs) := by simp [World.cell?, e2n]
          have q1 : W2.cell? ⟨H2, 1, none⟩ = some (.slice an recs.length cn) := by simp [World.cell?, e2n]
          have q2 := frozen_of_row W2 H2 0 _ _ e2n
          have q3 := frozen_of_row W2 H2 1 _ _ e2n
          have hnf : ¬ footS nb (.slice an recs.length cn) (.slice a2 M.length c2) M H2 := fun r => by have := hfo H2 r; have := hHH.out; omega
          have p4 := (p2.aside H2 (Or.inr rfl) (by have := hHH.out; omega) hnf 0 (.string text)).aside H2 (Or.inr rfl) (by have := hHH.out; omega) hnf 1 (.slice none 0 0)
          have hne : ∀ k, k ≠ H2 → ((W2.setCell ⟨H2, 0, none⟩ (.string text)).setCell ⟨H2, 1, none⟩ (.slice none 0 0)).heap[k]? = W2.heap[k]? := fun k hk => (Below.heap_setCell _ _ _ _ hk).trans (Below.heap_setCell _ _ _ _ hk)
          have e4 := (hne H (by have := hHH.out; omega)).trans e2
          have e4n : ((W2.setCell ⟨H2, 0, none⟩ (.string text)).setCell ⟨H2, 1, none⟩ (.slice none 0 0)).heap[H2]? = some (.cells #[.string text, .slice none 0 0] 35 (0, 0)) := heap_setCell_same _ H2 1 _ _ _ (heap_setCell_same W2 H2 0 _ _ (.string text) e2n)
          have c4t : ((W2.setCell ⟨H2, 0, none⟩ (.string text)).setCell ⟨H2, 1, none⟩ (.slice none 0 0)).cell? ⟨H, 1, none⟩ = some (.string text) := by simp [World.cell?, e4]
          clear hfits p2 e2 e2n hne
          go_wp2_with fail
          generalize (W2.setCell ⟨H2, 0, none⟩ (.string text)).setCell ⟨H2, 1, none⟩ (.slice none 0 0) = Wz at p4 e4 e4n ⊢
          obtain ⟨Y, hYd⟩ : ∃ Y : Nat → Prop, (fun k => k = H ∨ k = H2) = Y := ⟨_, rfl⟩
          have hYz : ∀ k, (Value.slice none 0 0).ownBlock = some k → footS nb (.slice an recs.length cn) (.slice a2 M.length c2) M k ∨ Y k := fun k e => by cases e
          have hYH : Hid (Y H) := by show Y H; rw [← hYd]; exact Or.inl rfl
          have hYH2 : Hid (Y H2) := by show Y H2; rw [← hYd]; exact Or.inr rfl
          have pz := p4
          have ez := e4
          have ezn := e4n
          have rz : Row Wz w2.heap.size (.slice none 0 0) [] := Or.inl ⟨rfl, rfl⟩
          rw [hYd] at pz
          clear p4 e4 e4n q0 q1 q2 q3 hYd hnf c2t c4t hfu
          have hbz : b + secs text + 4 ≤ 100000 := by have := HRM.out; omega
          rw [← HRM.out.2] at hbz
          have cFa := fun (pz : Px w2 Wz lb g gs 64 b bs recs false Q nb bs (.slice an recs.length cn) recs (.slice a2 M.length c2) M Y) => fault_replace pz.lx text HF.out (by rw [← HRM.out.2]; exact hbz)
          rw [← HRM.out.2] at cFa
          clear hbz
          rcases hT with ⟨rfl, rfl⟩ | ⟨rfl, hE⟩
          · as_aux_lemma =>
              refine (cFa pz).mono ?_
              rintro e w6 ⟨E', rfl, k6, hE'⟩
              have e6 := (k6.2 H (Or.inr (hYH.out))).trans ez
              have e6n := (k6.2 H2 (Or.inr (hYH2.out))).trans ezn
              have r6 := rz.kept (fun k e => k6.2 k (hYz k e))
              have hY6 := hYz
              rcases hE' with ⟨rfl, l6⟩ | ⟨rfl | rfl, l6⟩
              · have p6 := pz.did l6 k6
                clear l6 k6 pz ez ezn rz hYz
                have p6b := p6
                obtain ⟨y60, y61, z60, z61⟩ := p6.nw.cells
                have n60 : w6.cell? ⟨H2, 0, none⟩ = some (.string text) := by simp [World.cell?, e6n]
                have n61 : w6.cell? ⟨H2, 1, none⟩ = some (.slice none 0 0) := by simp [World.cell?, e6n]
                have p8 := p6b.put text (.slice none 0 0) [] r6 hY6
                obtain ⟨y80, y81, _, _⟩ := p8.nw.cells
                have hs8 : ((w6.setCell ⟨nb, 0, none⟩ (.string text)).setCell ⟨nb, 1, none⟩ (.slice none 0 0)).heap.size = w6.heap.size := by simp
                have ba := below_alloc1 ((w6.setCell ⟨nb, 0, none⟩ (.string text)).setCell ⟨nb, 1, none⟩ (.slice none 0 0)) (.cells #[.string text, .slice none 0 0] 35)
                obtain ⟨M', hM'⟩ : ∃ M', M' = M ++ [⟨text, .slice none 0 0, []⟩] := ⟨_, rfl⟩
                have HM : Hid (M' = M ++ [⟨text, .slice none 0 0, []⟩]) := hM'
                have P6 : Hid (Px w2 (((w6.setCell ⟨nb, 0, none⟩ (.string text)).setCell ⟨nb, 1, none⟩ (.slice none 0 0)).alloc (.cells #[.string text, .slice none 0 0] 35)) lb g gs 64 (b + (m + 4)) text [] false (fun T => T = bs :: recs) nb text (.slice none 0 0) [] (.slice a2 M.length c2) M Y) := p8.below ba
                have R6 : Hid (Row (((w6.setCell ⟨nb, 0, none⟩ (.string text)).setCell ⟨nb, 1, none⟩ (.slice none 0 0)).alloc (.cells #[.string text, .slice none 0 0] 35)) w2.heap.size (.slice none 0 0) []) := P6.out.nw.nrow
                have Y6 : Hid (∀ k, (Value.slice none 0 0).ownBlock = some k → footS nb (.slice none 0 0) (.slice a2 M.length c2) M k ∨ Y k) := fun k e => Or.inl (Or.inr (Or.inl e))
                have F7 : ∀ w7, Fr (fun k => (Value.slice a2 M.length c2).ownBlock = some k) (((w6.setCell ⟨nb, 0, none⟩ (.string text)).setCell ⟨nb, 1, none⟩ (.slice none 0 0)).alloc (.cells #[.string text, .slice none 0 0] 35)) w7 → w7.cell? ⟨H, 0, none⟩ = some (.int .i64 kind) := fun w7 f7 => by
                  have hlt6 := (Array.getElem?_eq_some_iff.1 e6).1
                  have hnn : H ≠ nb := fun e => by have := hfo nb (Or.inl rfl); omega
                  have q1 := f7.block H (by simp; omega) (fun e => by have := hfo H (Or.inr (Or.inr (Or.inl e))); omega)
                  have q2 := ba.block H (by simp; omega)
                  have q3 := (Below.heap_setCell (w6.setCell ⟨nb, 0, none⟩ (.string text)) ⟨nb, 1, none⟩ (.slice none 0 0) H hnn).trans (Below.heap_setCell w6 ⟨nb, 0, none⟩ (.string text) H hnn)
                  have q := q1.trans (q2.trans (q3.trans e6))
                  simp [World.cell?, q]
                clear p8 p6 p6b e6n e6 ba r6 hM' hY6 hs8
                go_wp2_with (at_builtin; refine wpList_append_state _ rfl (.tmp 162) (.tmp 164) rfl rfl P6.out.nw w6.heap.size ⟨text, .slice none 0 0, []⟩ rfl (by go_simp) (by go_simp) R6.out (by omega) P6.out.lx.bel.size ?_; intro v7 w7 n7 f7 g7; have e7k := F7 w7 f7; have p7 := P6.out.push n7 f7 g7 Y6.out; rw [← HM.out] at p7; obtain ⟨a7, c7, hv7, _⟩ := p7.nw.sts.len; subst hv7; clear n7 f7 g7)
                have hlen7 : M'.length = M.length + 1 := by rw [HM.out]; simp
                have HC0 : Hid (∃ s ∈ M', bs :: recs = s.base :: s.recs) := by
                  obtain ⟨s, hs, e⟩ := HC.out
                  exact ⟨s, by rw [HM.out]; exact List.mem_append_left _ hs, e⟩
                have HC7 : Hid (∃ s ∈ M', text :: [] = s.base :: s.recs) := ⟨_, by rw [HM.out]; exact List.mem_append_right _ (List.mem_cons_self ..), rfl⟩
                have HB7 : Hid (M'.length ≤ i + 1 + 1) := by show _ ≤ _; omega
                have HQ7 : Hid (∀ T, T = bs :: recs → ∃ s ∈ M', T = s.base :: s.recs) := by
                  rintro T rfl
                  exact HC0.out
                clear P6 HM hlen7 R6 Y6
                go_roundw
                case rel => exact ⟨i + 1, (b + (m + 4)), 0, c7, none, a7, text, [], M', _, false, 0, by omega, rfl, rfl, by go_num, by omega, HB7.out, HQ7, HC7, Or.inl ⟨rfl, rfl⟩, (p7).less (Z := fun _ => False) (fun _ x => False.elim x)⟩
                case measure => simp [intOf]; omega
              · as_aux_lemma =>
                  have p6 := pz.did l6 k6
                  clear l6 k6 pz ez ezn rz hYz e6
                  have hbD := below_drew w6
                  have kS9 : ∀ U, Below w6.heap.size w6 U → U.cell? ⟨nb, 0, none⟩ = some (.string bs) ∧ U.cell? ⟨nb, 1, none⟩ = some (.slice an recs.length cn) := fun U h => ⟨(p6.below h).nw.cells.1, (p6.below h).nw.cells.2.1⟩
                  have cSe := fun U (h : Below w6.heap.size w6 U) => fault_seen (p6.below h).lx
                  have cSa := fun U v B (h : Below w6.heap.size w6 U) (r : Row U B v recs) => refSame_true (b1 := bs) r (p6.below h).nw.nrow (by omega)
                  go_wp2_with fail
                  refine wp_region_held_drew (S := (fun U => U.cell? ⟨nb, 0, none⟩ = some (.string bs) ∧ U.cell? ⟨nb, 1, none⟩ = some (.slice an recs.length cn))) (by kernel_rfl) (kS9 _ hbD) (fun hHeld => ?_)
                  refine takeD 0 143 (v := .int .i64 41) rfl rfl (by kernel_rfl) (by kernel_rfl) (by kernel_rfl) (fun _ _ _ h => h) (Or.inl ⟨by rfl, by (intro w hSw; (try dsimp only at hSw); go_simp)⟩) hHeld ?_
                  simp only [List.setIfInBounds_toArray, List.set_cons_zero, List.set_cons_succ]
                  refine takeD 1 144 (v := .bool false) rfl rfl (by kernel_rfl) (by kernel_rfl) (by kernel_rfl) (fun _ _ _ h => h) (Or.inl ⟨by rfl, by (intro w hSw; (try dsimp only at hSw); go_simp)⟩) hHeld ?_
                  simp only [List.setIfInBounds_toArray, List.set_cons_zero, List.set_cons_succ]
                  refine takeD 2 145 (v := .bool false) rfl rfl (by kernel_rfl) (by kernel_rfl) (by kernel_rfl) (fun _ _ _ h => h) (Or.inl ⟨by rfl, by (intro w hSw; (try dsimp only at hSw); go_simp)⟩) hHeld ?_
                  simp only [List.setIfInBounds_toArray, List.set_cons_zero, List.set_cons_succ]
                  refine takeD 3 146 (v := undef) rfl rfl (by kernel_rfl) (by kernel_rfl) (by kernel_rfl) (fun _ _ _ h => h) (Or.inr ⟨by kernel_rfl, rfl⟩) hHeld ?_
                  simp only [List.setIfInBounds_toArray, List.set_cons_zero, List.set_cons_succ]
                  refine takeD 4 147 (v := undef) rfl rfl (by kernel_rfl) (by kernel_rfl) (by kernel_rfl) (fun _ _ _ h => h) (Or.inr ⟨by kernel_rfl, rfl⟩) hHeld ?_
                  simp only [List.setIfInBounds_toArray, List.set_cons_zero, List.set_cons_succ]
                  refine takeD 5 148 (v := .bool false) rfl rfl (by kernel_rfl) (by kernel_rfl) (by kernel_rfl) (fun _ _ _ h => h) (Or.inl ⟨by rfl, by (intro w hSw; (try dsimp only at hSw); go_simp)⟩) hHeld ?_
                  simp only [List.setIfInBounds_toArray, List.set_cons_zero, List.set_cons_succ]
                  refine takeD 6 149 (v := .bool false) rfl rfl (by kernel_rfl) (by kernel_rfl) (by kernel_rfl) (fun _ _ _ h => h) (Or.inl ⟨by rfl, by (intro w hSw; (try dsimp only at hSw); go_simp)⟩) hHeld ?_
                  simp only [List.setIfInBounds_toArray, List.set_cons_zero, List.set_cons_succ]
                  refine takeD 7 150 (v := .pointer (some ⟨lb, 0, none⟩)) rfl rfl (by kernel_rfl) (by kernel_rfl) (by kernel_rfl) (fun _ _ _ h => h) (Or.inl ⟨by rfl, by (intro w hSw; (try dsimp only at hSw); go_simp)⟩) hHeld ?_
                  simp only [List.setIfInBounds_toArray, List.set_cons_zero, List.set_cons_succ]
                  refine takeD 9 152 (v := .agg #[.string bs, .slice an recs.length cn]) rfl rfl (by kernel_rfl) (by kernel_rfl) (by kernel_rfl) (fun _ _ _ h => h) (Or.inl ⟨by rfl, by (intro w hSw; (try dsimp only at hSw); go_simp)⟩) hHeld ?_
                  simp only [List.setIfInBounds_toArray, List.set_cons_zero, List.set_cons_succ]
                  refine wpAnyH_ready (rs := [8]) (by kernel_rfl) (by simp) ?_
                  refine AllReadyH.cons rfl (fun K hK => ?_) AllReadyH.nil
                  go_simp
                  refine (cSe _ hbD).mono ?_
                  rintro e wA ⟨v, rfl, rA, bA⟩
                  go_simp
                  refine hK.out _ _ (kS9 _ (below2 hbD bA)) (fun hHeld => ?_)
                  clear hK K
                  refine wpAnyH_ready (rs := [10]) (by kernel_rfl) (by simp) ?_
                  refine AllReadyH.cons rfl (fun K hK => ?_) AllReadyH.nil
                  go_simp
                  refine (cSa _ _ _ (below2 hbD bA) rA).mono ?_
                  rintro e wB ⟨rfl, bB⟩
                  go_simp
                  refine hK.out _ _ (kS9 _ (below2 (below2 hbD bA) bB)) (fun hHeld => ?_)
                  clear hK K
                  refine takeD 11 154 (v := .bool false) rfl rfl (by kernel_rfl) (by kernel_rfl) (by kernel_rfl) (fun _ _ _ h => h) (Or.inl ⟨by rfl, by (intro w hSw; (try dsimp only at hSw); go_simp)⟩) hHeld ?_
                  simp only [List.setIfInBounds_toArray, List.set_cons_zero, List.set_cons_succ]
                  refine takeD 12 155 (v := .bool false) rfl rfl (by kernel_rfl) (by kernel_rfl) (by kernel_rfl) (fun _ _ _ h => h) (Or.inl ⟨by rfl, by (intro w hSw; (try dsimp only at hSw); go_simp)⟩) hHeld ?_
                  simp only [List.setIfInBounds_toArray, List.set_cons_zero, List.set_cons_succ]
                  refine wpAnyH_done (by kernel_rfl) ?_ _
                  have hB9 := below2 (below2 hbD bA) bB
                  have p9 := p6.below hB9
                  have e9n := (hB9.block H2 (Array.getElem?_eq_some_iff.1 e6n).1).trans e6n
                  have n90 : wB.cell? ⟨H2, 0, none⟩ = some (.string text) := by simp [World.cell?, e9n]
                  have n91 : wB.cell? ⟨H2, 1, none⟩ = some (.slice none 0 0) := by simp [World.cell?, e9n]
                  have ba := below_alloc1 wB (.cells #[.string text, .slice none 0 0] 35)
                  have r9 := r6.kept (fun k e => (below2 hB9 ba).block k (r6.blk e).2)
                  obtain ⟨M', hM'⟩ : ∃ M', M' = M ++ [⟨text, .slice none 0 0, []⟩] := ⟨_, rfl⟩
                  have HM : Hid (M' = M ++ [⟨text, .slice none 0 0, []⟩]) := hM'
                  have R6 : Hid (Row (wB.alloc (.cells #[.string text, .slice none 0 0] 35)) w2.heap.size (.slice none 0 0) []) := r9
                  have P6 : Hid (Px w2 (wB.alloc (.cells #[.string text, .slice none 0 0] 35)) lb g gs 64 (b + (m + 4)) bs recs true (fun T => T = bs :: recs ∨ Q T) nb bs (.slice an recs.length cn) recs (.slice a2 M.length c2) M Y) := p9.below ba
                  have Y6 : Hid (∀ k, (Value.slice none 0 0).ownBlock = some k → footS nb (.slice an recs.length cn) (.slice a2 M.length c2) M k ∨ Y k) := hY6
                  clear p9 p6 hB9 e9n e6n ba r9 r6 hM' kS9 cSe cSa hbD bA bB rA hY6
                  go_wp2_with (at_builtin; refine wpList_append_state _ rfl (.tmp 157) (.tmp 159) rfl rfl P6.out.nw wB.heap.size ⟨text, .slice none 0 0, []⟩ rfl (by go_simp) (by go_simp) R6.out (by omega) P6.out.lx.bel.size ?_; intro v7 w7 n7 f7 g7; have p7 := P6.out.push n7 f7 g7 Y6.out; rw [← HM.out] at p7; obtain ⟨a7, c7, hv7, _⟩ := p7.nw.sts.len; subst hv7; clear n7 f7 g7)
                  have hlen7 : M'.length = M.length + 1 := by rw [HM.out]; simp
                  have HC0 : Hid (∃ s ∈ M', bs :: recs = s.base :: s.recs) := by
                    obtain ⟨s, hs, e⟩ := HC.out
                    exact ⟨s, by rw [HM.out]; exact List.mem_append_left _ hs, e⟩
                  have HC7 : Hid (∃ s ∈ M', text :: [] = s.base :: s.recs) := ⟨_, by rw [HM.out]; exact List.mem_append_right _ (List.mem_cons_self ..), rfl⟩
                  have HB7 : Hid (M'.length ≤ i + 1 + 1) := by show _ ≤ _; omega
                  have HQ7 : Hid (∀ T, (T = bs :: recs ∨ Q T) → ∃ s ∈ M', T = s.base :: s.recs) := by
                    rintro T (rfl | h)
                    · exact HC0.out
                    · obtain ⟨s, hs, e⟩ := HQ.out T h
                      exact ⟨s, by rw [HM.out]; exact List.mem_append_left _ hs, e⟩
                  clear P6 HM hlen7 R6 Y6
                  go_wp2_with fail
                  go_roundw
                  case rel => exact ⟨i + 1, (b + (m + 4)), cn, c7, an, a7, bs, recs, M', _, true, 41, by omega, rfl, rfl, by go_num, by omega, HB7.out, HQ7, HC0, Or.inr ⟨rfl, Or.inl rfl⟩, (p7).less (Z := fun _ => False) (fun _ x => False.elim x)⟩
                  case measure => simp [intOf]; omega
              · as_aux_lemma =>
                  have p6 := pz.did l6 k6
                  clear l6 k6 pz ez ezn rz hYz e6
                  have hbD := below_drew w6
                  have kS9 : ∀ U, Below w6.heap.size w6 U → U.cell? ⟨nb, 0, none⟩ = some (.string bs) ∧ U.cell? ⟨nb, 1, none⟩ = some (.slice an recs.length cn) := fun U h => ⟨(p6.below h).nw.cells.1, (p6.below h).nw.cells.2.1⟩
                  have cSe := fun U (h : Below w6.heap.size w6 U) => fault_seen (p6.below h).lx
                  have cSa := fun U v B (h : Below w6.heap.size w6 U) (r : Row U B v recs) => refSame_true (b1 := bs) r (p6.below h).nw.nrow (by omega)
                  go_wp2_with fail
                  refine wp_region_held_drew (S := (fun U => U.cell? ⟨nb, 0, none⟩ = some (.string bs) ∧ U.cell? ⟨nb, 1, none⟩ = some (.slice an recs.length cn))) (by kernel_rfl) (kS9 _ hbD) (fun hHeld => ?_)
                  refine takeD 0 143 (v := .int .i64 42) rfl rfl (by kernel_rfl) (by kernel_rfl) (by kernel_rfl) (fun _ _ _ h => h) (Or.inl ⟨by rfl, by (intro w hSw; (try dsimp only at hSw); go_simp)⟩) hHeld ?_
                  simp only [List.setIfInBounds_toArray, List.set_cons_zero, List.set_cons_succ]
                  refine takeD 1 144 (v := .bool true) rfl rfl (by kernel_rfl) (by kernel_rfl) (by kernel_rfl) (fun _ _ _ h => h) (Or.inl ⟨by rfl, by (intro w hSw; (try dsimp only at hSw); go_simp)⟩) hHeld ?_
                  simp only [List.setIfInBounds_toArray, List.set_cons_zero, List.set_cons_succ]
                  refine takeD 2 145 (v := .bool true) rfl rfl (by kernel_rfl) (by kernel_rfl) (by kernel_rfl) (fun _ _ _ h => h) (Or.inl ⟨by rfl, by (intro w hSw; (try dsimp only at hSw); go_simp)⟩) hHeld ?_
                  simp only [List.setIfInBounds_toArray, List.set_cons_zero, List.set_cons_succ]
                  refine takeD 3 146 (v := .int .i64 42) rfl rfl (by kernel_rfl) (by kernel_rfl) (by kernel_rfl) (fun _ _ _ h => h) (Or.inl ⟨by rfl, by (intro w hSw; (try dsimp only at hSw); go_simp)⟩) hHeld ?_
                  simp only [List.setIfInBounds_toArray, List.set_cons_zero, List.set_cons_succ]
                  refine takeD 4 147 (v := .bool false) rfl rfl (by kernel_rfl) (by kernel_rfl) (by kernel_rfl) (fun _ _ _ h => h) (Or.inl ⟨by rfl, by (intro w hSw; (try dsimp only at hSw); go_simp)⟩) hHeld ?_
                  simp only [List.setIfInBounds_toArray, List.set_cons_zero, List.set_cons_succ]
                  refine takeD 5 148 (v := .bool false) rfl rfl (by kernel_rfl) (by kernel_rfl) (by kernel_rfl) (fun _ _ _ h => h) (Or.inl ⟨by rfl, by (intro w hSw; (try dsimp only at hSw); go_simp)⟩) hHeld ?_
                  simp only [List.setIfInBounds_toArray, List.set_cons_zero, List.set_cons_succ]
                  refine takeD 6 149 (v := .bool false) rfl rfl (by kernel_rfl) (by kernel_rfl) (by kernel_rfl) (fun _ _ _ h => h) (Or.inl ⟨by rfl, by (intro w hSw; (try dsimp only at hSw); go_simp)⟩) hHeld ?_
                  simp only [List.setIfInBounds_toArray, List.set_cons_zero, List.set_cons_succ]
                  refine takeD 7 150 (v := .pointer (some ⟨lb, 0, none⟩)) rfl rfl (by kernel_rfl) (by kernel_rfl) (by kernel_rfl) (fun _ _ _ h => h) (Or.inl ⟨by rfl, by (intro w hSw; (try dsimp only at hSw); go_simp)⟩) hHeld ?_
                  simp only [List.setIfInBounds_toArray, List.set_cons_zero, List.set_cons_succ]
                  refine takeD 9 152 (v := .agg #[.string bs, .slice an recs.length cn]) rfl rfl (by kernel_rfl) (by kernel_rfl) (by kernel_rfl) (fun _ _ _ h => h) (Or.inl ⟨by rfl, by (intro w hSw; (try dsimp only at hSw); go_simp)⟩) hHeld ?_
                  simp only [List.setIfInBounds_toArray, List.set_cons_zero, List.set_cons_succ]
                  refine wpAnyH_ready (rs := [8]) (by kernel_rfl) (by simp) ?_
                  refine AllReadyH.cons rfl (fun K hK => ?_) AllReadyH.nil
                  go_simp
                  refine (cSe _ hbD).mono ?_
                  rintro e wA ⟨v, rfl, rA, bA⟩
                  go_simp
                  refine hK.out _ _ (kS9 _ (below2 hbD bA)) (fun hHeld => ?_)
                  clear hK K
                  refine wpAnyH_ready (rs := [10]) (by kernel_rfl) (by simp) ?_
                  refine AllReadyH.cons rfl (fun K hK => ?_) AllReadyH.nil
                  go_simp
                  refine (cSa _ _ _ (below2 hbD bA) rA).mono ?_
                  rintro e wB ⟨rfl, bB⟩
                  go_simp
                  refine hK.out _ _ (kS9 _ (below2 (below2 hbD bA) bB)) (fun hHeld => ?_)
                  clear hK K
                  refine takeD 11 154 (v := .bool false) rfl rfl (by kernel_rfl) (by kernel_rfl) (by kernel_rfl) (fun _ _ _ h => h) (Or.inl ⟨by rfl, by (intro w hSw; (try dsimp only at hSw); go_simp)⟩) hHeld ?_
                  simp only [List.setIfInBounds_toArray, List.set_cons_zero, List.set_cons_succ]
                  refine takeD 12 155 (v := .bool false) rfl rfl (by kernel_rfl) (by kernel_rfl) (by kernel_rfl) (fun _ _ _ h => h) (Or.inl ⟨by rfl, by (intro w hSw; (try dsimp only at hSw); go_simp)⟩) hHeld ?_
                  simp only [List.setIfInBounds_toArray, List.set_cons_zero, List.set_cons_succ]
                  refine wpAnyH_done (by kernel_rfl) ?_ _
                  have hB9 := below2 (below2 hbD bA) bB
                  have p9 := p6.below hB9
                  have e9n := (hB9.block H2 (Array.getElem?_eq_some_iff.1 e6n).1).trans e6n
                  have n90 : wB.cell? ⟨H2, 0, none⟩ = some (.string text) := by simp [World.cell?, e9n]
                  have n91 : wB.cell? ⟨H2, 1, none⟩ = some (.slice none 0 0) := by simp [World.cell?, e9n]
                  have ba := below_alloc1 wB (.cells #[.string text, .slice none 0 0] 35)
                  have r9 := r6.kept (fun k e => (below2 hB9 ba).block k (r6.blk e).2)
                  obtain ⟨M', hM'⟩ : ∃ M', M' = M ++ [⟨text, .slice none 0 0, []⟩] := ⟨_, rfl⟩
                  have HM : Hid (M' = M ++ [⟨text, .slice none 0 0, []⟩]) := hM'
                  have R6 : Hid (Row (wB.alloc (.cells #[.string text, .slice none 0 0] 35)) w2.heap.size (.slice none 0 0) []) := r9
                  have P6 : Hid (Px w2 (wB.alloc (.cells #[.string text, .slice none 0 0] 35)) lb g gs 64 (b + (m + 4)) bs recs true (fun T => T = bs :: recs ∨ Q T) nb bs (.slice an recs.length cn) recs (.slice a2 M.length c2) M Y) := p9.below ba
                  have Y6 : Hid (∀ k, (Value.slice none 0 0).ownBlock = some k → footS nb (.slice an recs.length cn) (.slice a2 M.length c2) M k ∨ Y k) := hY6
                  clear p9 p6 hB9 e9n e6n ba r9 r6 hM' kS9 cSe cSa hbD bA bB rA hY6
                  go_wp2_with (at_builtin; refine wpList_append_state _ rfl (.tmp 157) (.tmp 159) rfl rfl P6.out.nw wB.heap.size ⟨text, .slice none 0 0, []⟩ rfl (by go_simp) (by go_simp) R6.out (by omega) P6.out.lx.bel.size ?_; intro v7 w7 n7 f7 g7; have p7 := P6.out.push n7 f7 g7 Y6.out; rw [← HM.out] at p7; obtain ⟨a7, c7, hv7, _⟩ := p7.nw.sts.len; subst hv7; clear n7 f7 g7)
                  have hlen7 : M'.length = M.length + 1 := by rw [HM.out]; simp
                  have HC0 : Hid (∃ s ∈ M', bs :: recs = s.base :: s.recs) := by
                    obtain ⟨s, hs, e⟩ := HC.out
                    exact ⟨s, by rw [HM.out]; exact List.mem_append_left _ hs, e⟩
                  have HC7 : Hid (∃ s ∈ M', text :: [] = s.base :: s.recs) := ⟨_, by rw [HM.out]; exact List.mem_append_right _ (List.mem_cons_self ..), rfl⟩
                  have HB7 : Hid (M'.length ≤ i + 1 + 1) := by show _ ≤ _; omega
                  have HQ7 : Hid (∀ T, (T = bs :: recs ∨ Q T) → ∃ s ∈ M', T = s.base :: s.recs) := by
                    rintro T (rfl | h)
                    · exact HC0.out
                    · obtain ⟨s, hs, e⟩ := HQ.out T h
                      exact ⟨s, by rw [HM.out]; exact List.mem_append_left _ hs, e⟩
                  clear P6 HM hlen7 R6 Y6
                  go_wp2_with fail
                  go_roundw
                  case rel => exact ⟨i + 1, (b + (m + 4)), cn, c7, an, a7, bs, recs, M', _, true, 42, by omega, rfl, rfl, by go_num, by omega, HB7.out, HQ7, HC0, Or.inr ⟨rfl, Or.inr rfl⟩, (p7).less (Z := fun _ => False) (fun _ x => False.elim x)⟩
                  case measure => simp [intOf]; omega
          · as_aux_lemma =>
              have hE0 : (E == 0) = false := by rcases hE with rfl | rfl <;> rfl
              refine (down_replace pz.lx text).mono ?_
              rintro e w6 ⟨rfl, e6w⟩
              rw [e6w]
              clear e6w ez ezn rz hYz
              go_wp2_with fail
              have hbD := below_drew Wz
              have kS9 : ∀ U, Below Wz.heap.size Wz U → U.cell? ⟨nb, 0, none⟩ = some (.string bs) ∧ U.cell? ⟨nb, 1, none⟩ = some (.slice an recs.length cn) := fun U h => ⟨(pz.below h).nw.cells.1, (pz.below h).nw.cells.2.1⟩
              have cSe := fun U (h : Below Wz.heap.size Wz U) => fault_seen (pz.below h).lx
              have cSa := fun U v B (h : Below Wz.heap.size Wz U) (r : Row U B v recs) => refSame_true (b1 := bs) r (pz.below h).nw.nrow (by omega)
              have hB := hbD
              go_region_held3 (fun U => U.cell? ⟨nb, 0, none⟩ = some (.string bs) ∧ U.cell? ⟨nb, 1, none⟩ = some (.slice an recs.length cn))
                (exact kS9 _ hB)
                (first
                  | (go_at_call 21; refine (cSe _ hB).mono ?_; rintro e wA ⟨v, rfl, rA, bA⟩; have hB := below2 hB bA)
                  | (go_at_call 22; refine (cSa _ _ _ hB rA).mono ?_; rintro e wB ⟨rfl, bB⟩; have hB := below2 hB bB))
              clear cSe cSa kS9
              go_wp2_with fail
              go_roundw
              case rel => exact ⟨i + 1, b, cn, c2, an, a2, bs, recs, M, _, true, E, by omega, rfl, rfl, by go_num, by omega, by omega, HQ, HC, Or.inr ⟨rfl, hE⟩, (pz.below hB).less (Z := fun _ => False) (fun _ x => False.elim x)⟩
              case measure => simp [intOf]; omega
    · have hend : ¬ (i : Int) < (L.length : Int) := by omega
      as_aux_lemma =>
        have hL100i : i ≤ 100 := by omega
        go_wp2_with (at_builtin; refine wpList_copy_ints rfl (.tmp 172) (.tmp 173) rfl wr wr.heap.size rfl rfl kA kL kC rfl (hKs.kept (below2 b2 p.lx.bel)) hKn hKc (by omega) ?_; intro cb cc wk bk hcb hcb2 slk)
        have pk := p.belowN bk
        refine (fault_crash pk.lx kL (some ⟨cb, 0, none⟩) cc slk (by intro x1 x2 e _; cases e; exact Or.inr (Or.inr (Or.inr ⟨hcb, hcb2⟩))) (by omega)).mono ?_
        rintro e wm ⟨rfl, dm, km⟩
        have HT : Hid (∀ T, (T = bs :: recs ∨ Q T) → ∃ s ∈ M, T = s.base :: s.recs) := by
          rintro T (rfl | h)
          · exact HC.out
          · exact HQ.out T h
        clear p bk slk hcb hcb2 HQ HC
        go_wp2_with fail
        refine (play_open dm (by omega)).mono ?_
        rintro e wn ⟨ln, bsn, rn, rfl, hTn, lno, kn⟩
        have HT2 : Hid (∃ s ∈ M, bsn :: rn = s.base :: s.recs) := HT.out _ hTn
        have pn : Pl w2 wn ln g gs 64 (b + 1) bsn rn (fun _ => False) nb bs (.slice an recs.length cn) recs (.slice a2 M.length c2) M _ := ⟨lno, pk.nw.kept (fun j r => (km.trans kn).2 j (Or.inl r))⟩
        clear lno dm km kn hTn HT pk
        obtain ⟨F1n, F2n, F3n⟩ := pn.lw.few (by omega)
        go_wp2_with fail
        refine (seen_any pn.lw).mono ?_
        rintro e ws ⟨v, rfl, rs, bs5⟩
        obtain ⟨av, cv, hav⟩ := rs.len
        subst hav
        have ps := pn.belowN bs5
        have ba4 := below_alloc1 ws (.cells #[.string bsn, .slice av rn.length cv] 35)
        have p4 := ps.belowN ba4
        have r4 : Row (ws.alloc (.cells #[.string bsn, .slice av rn.length cv] 35)) w2.heap.size (.slice av rn.length cv) rn := (rs.kept (fun k e => ba4.block k (rs.blk e).2)).mono pn.lw.bel.size
        have ew4 := heap_alloc_new ws (.cells #[.string bsn, .slice av rn.length cv] 35)
        have hws : wn.heap.size ≤ ws.heap.size := bs5.size
        have hsz4 : (ws.alloc (.cells #[.string bsn, .slice av rn.length cv] 35)).heap.size = ws.heap.size + 1 := by simp
        have p4' := p4.less (Z := fun k => wn.heap.size ≤ k ∧ k ≤ ws.heap.size) (fun k e => by
          by_cases h : k < ws.heap.size
          · exact Or.inl (Or.inr ⟨e.1, h⟩)
          · exact Or.inr ⟨by omega, by omega⟩)
        have hY4 : ∀ k, (Value.slice av rn.length cv).ownBlock = some k → (wn.heap.size ≤ k ∧ k ≤ ws.heap.size) := fun k e => ⟨(rs.blk e).1, Nat.le_of_lt (rs.blk e).2⟩
        have hwb : ws.heap.size < (ws.alloc (.cells #[.string bsn, .slice av rn.length cv] 35)).heap.size := by simp
        clear p4 ps pn bs5 ba4 hsz4
        go_wp2_with fail
        obtain ⟨wb, hwbe⟩ : ∃ wb, ws.heap.size = wb := ⟨_, rfl⟩
        generalize ws.alloc (.cells #[.string bsn, .slice av rn.length cv] 35) = W4 at p4' r4 ew4 hwb ⊢
        rw [hwbe] at ew4 hwb p4' hY4 hws ⊢
        clear rs hwbe
        go_loopw [21, 22] (fun sf sk V => ∃ (k : Nat) (f : Bool), k ≤ M.length ∧ sf = .bool f ∧ sk = .int .i64 (k : Int) ∧ FndB f M k (bsn :: rn) ∧ Below W4.heap.size W4 V) (fun _ sk _ => M.length - (intOf sk).toNat)
        case atStart => exact ⟨0, false, Nat.zero_le _, rfl, rfl, FndB.start, Below.refl _ _⟩
        case round =>
          obtain ⟨k, f, hk, rfl, rfl, HK, hV⟩ := hrel
          have pV := p4'.below hV
          have eV := (hV.block wb hwb).trans ew4
          have rV := r4.kept (fun k e => hV.block k (r4.blk e).2)
          have v0 : wr.cell? ⟨wb, 0, none⟩ = some (.string bsn) := by simp [World.cell?, eV]
          have v1 : wr.cell? ⟨wb, 1, none⟩ = some (.slice av rn.length cv) := by simp [World.cell?, eV]
          by_cases hkl : k < M.length
          · as_aux_lemma =>
              have hkl2 : (k : Int) < (M.length : Int) := by omega
              have hs : M[k]? = some M[k] := by simp [hkl]
              generalize M[k] = s at hs
              obtain ⟨sb, sc, es, hsc, q0, q1⟩ := pV.nw.sts.cell hs
              injection es with t1 t2 t3
              subst t1 t3
              have hsc2 : (M.length : Int) ≤ (c2 : Int) := by omega
              have rS := pV.nw.sts.each s (List.mem_of_getElem? hs)
              obtain ⟨bS, vS, rSs⟩ := s
              obtain ⟨aS, cS, hvS⟩ := rS.len
              dsimp only at hvS q0 q1 rS
              subst hvS
              cases f with
              | false =>
                have cSa := fun U (h : Below wr.heap.size wr U) => refSame_any (b1 := bS) (b2 := bsn) (rS.kept (fun k e => h.block k (rS.blk e).2)) (rV.kept (fun k e => h.block k (rV.blk e).2)) (by omega)
                obtain ⟨D, hD⟩ : ∃ D, D = decide (bS = bsn ∧ rSs = rn) := ⟨_, rfl⟩
                rw [← hD] at cSa
                have HK2 : FndB D M (k + 1) (bsn :: rn) := by
                  unfold FndB
                  rw [hD, decide_eq_true_eq]
                  constructor
                  · rintro ⟨rfl, rfl⟩
                    exact ⟨k, _, by omega, hs, rfl⟩
                  · rintro ⟨j, s', hj, hjs, e⟩
                    by_cases hjk : j < k
                    · exact absurd (HK.2 ⟨j, s', hjk, hjs, e⟩) (by decide)
                    · obtain rfl : j = k := by omega
                      rw [hs] at hjs
                      cases hjs
                      injection e with e1 e2
                      exact ⟨e1.symm, e2.symm⟩
                have hbD := below_drew wr
                have kS9 : ∀ U, Below wr.heap.size wr U → U.cell? ⟨sb, k * 2, none⟩ = some (.string bS) ∧ U.cell? ⟨sb, k * 2 + 1, none⟩ = some (.slice aS rSs.length cS) ∧ U.cell? ⟨wb, 0, none⟩ = some (.string bsn) ∧ U.cell? ⟨wb, 1, none⟩ = some (.slice av rn.length cv) := fun U h => ⟨(h.cell (p := ⟨sb, k * 2, none⟩) (World.block_lt_of_cell? wr _ q0)).trans q0, (h.cell (p := ⟨sb, k * 2 + 1, none⟩) (World.block_lt_of_cell? wr _ q1)).trans q1, (h.cell (p := ⟨wb, 0, none⟩) (World.block_lt_of_cell? wr _ v0)).trans v0, (h.cell (p := ⟨wb, 1, none⟩) (World.block_lt_of_cell? wr _ v1)).trans v1⟩
                clear hD hs HK
                go_wp2_with fail
                have hB := hbD
                go_region_held3 (fun U => U.cell? ⟨sb, k * 2, none⟩ = some (.string bS) ∧ U.cell? ⟨sb, k * 2 + 1, none⟩ = some (.slice aS rSs.length cS) ∧ U.cell? ⟨wb, 0, none⟩ = some (.string bsn) ∧ U.cell? ⟨wb, 1, none⟩ = some (.slice av rn.length cv))
                  (exact kS9 _ hB)
                  (first | (go_at_call 22; refine (cSa _ hB).mono ?_; rintro e wB ⟨rfl, bB⟩; have hB := below2 hB bB))
                all_goals go_wp2_with fail
                all_goals go_roundw
                case rel => exact ⟨k + 1, D, by omega, rfl, by go_num, HK2, below2 hV hB⟩
                case measure => simp [intOf]; omega
              | true =>
                have HK2 : FndB true M (k + 1) (bsn :: rn) := HK.more
                clear HK hs
                go_wp2_with fail
                go_quiet (fail)
                go_wp2_with fail
                go_roundw
                case rel => exact ⟨k + 1, true, by omega, rfl, by go_num, HK2, below2 hV (belowDrewN _ _)⟩
                case measure => simp [intOf]; omega
          · as_aux_lemma =>
              have hkl2 : ¬ (k : Int) < (M.length : Int) := by omega
              obtain rfl : f = true := by
                obtain ⟨s, hs, e⟩ := HT2.out
                obtain ⟨j, hj⟩ := List.mem_iff_getElem?.1 hs
                have := (List.getElem?_eq_some_iff.1 hj).1
                exact HK.2 ⟨j, s, by omega, hj, e⟩
              have cC := play_crash pV.lw (by omega) [] none 0 (Or.inl rfl) (by intro _ _ e _; cases e)
              clear HK hV
              go_wp2_with fail
              refine cC.mono ?_
              rintro e wc ⟨rfl, dc, kc2⟩
              have eC := (kc2.2 wb (Or.inr ⟨hws, Nat.le_refl _⟩)).trans eV
              have rC := rV.kept (fun k e => kc2.2 k (Or.inr (hY4 k e)))
              clear cC
              go_wp2_with fail
              refine (play_open dc (by omega)).mono ?_
              rintro e wo ⟨lo, bso, ro, rfl, hTo, loo, ko⟩
              have hTo2 : bso = bsn ∧ ro = rn := by
                rcases hTo with h | h
                · injection h with h1 h2
                  exact ⟨h1, h2⟩
                · exact h.elim
              obtain ⟨rfl, rfl⟩ := hTo2
              have eO := (ko.2 wb (Or.inr ⟨hws, Nat.le_refl _⟩)).trans eC
              have rO := rC.kept (fun k e => ko.2 k (Or.inr (hY4 k e)))
              have o0 : wo.cell? ⟨wb, 0, none⟩ = some (.string bso) := by simp [World.cell?, eO]
              have o1 : wo.cell? ⟨wb, 1, none⟩ = some (.slice av ro.length cv) := by simp [World.cell?, eO]
              have hbO := World.block_lt_of_cell? wo _ o0
              have hbD := below_drew wo
              have kS9 : ∀ U, Below wo.heap.size wo U → U.cell? ⟨wb, 0, none⟩ = some (.string bso) ∧ U.cell? ⟨wb, 1, none⟩ = some (.slice av ro.length cv) := fun U h => ⟨(h.cell (p := ⟨wb, 0, none⟩) hbO).trans o0, (h.cell (p := ⟨wb, 1, none⟩) hbO).trans o1⟩
              have cSe := fun U (h : Below wo.heap.size wo U) => seen_any (loo.below h)
              have cSa := fun U v B (h : Below wo.heap.size wo U) (r : Row U B v ro) => refSame_true (b1 := bso) r (rO.kept (fun k e => h.block k (rO.blk e).2)) (by omega)
              have hbl := loo.bel
              clear pV eV rV v0 v1 dc kc2 eC rC ko eO r4 ew4 p4' hTo
              go_wp2_with fail
              have hB := hbD
              go_region_held3 (fun U => U.cell? ⟨wb, 0, none⟩ = some (.string bso) ∧ U.cell? ⟨wb, 1, none⟩ = some (.slice av ro.length cv))
                (exact kS9 _ hB)
                (first
                  | (go_at_call 21; refine (cSe _ hB).mono ?_; rintro e wA ⟨v, rfl, rA, bA⟩; have hB := below2 hB bA)
                  | (go_at_call 22; refine (cSa _ _ _ hB rA).mono ?_; rintro e wB ⟨rfl, bB⟩; have hB := below2 hB bB)
                  | (go_at_call 10; refine (wakes_any _).mono ?_; rintro e wC ⟨rfl, bC⟩; have hB := below2 hB bC))
              go_wp2_with fail
              go_ret
              exact ⟨rfl, below2 (below2 b2 hbl) hB⟩

end Go.Proofs.Ytlapgalefpenbaa
end

section
namespace Go.Proofs.Ytlapgalefpenbaa
open Go.RowKit

set_option maxHeartbeats 3200000 in
set_option maxRecDepth 100000 in
theorem down_no (x y : Int) (a0 : Option Addr) (L : List St) (c0 : Nat) (kA : Option Addr) (kn kC : Nat) (w : World) (R : Bool) (cF : ∀ V, Below w.heap.size w V → Calls Try.prog 9 #[.slice a0 L.length c0] V fun e w' => e = .returned (.bool R) ∧ Below V.heap.size V w') (hR : R = false ∨ 1000 < kn) :
    Calls Try.prog 4 #[.agg #[.int .i64 x, .int .i64 y, .slice a0 L.length c0, .slice kA kn kC]] w fun e w' => e = .returned (.bool true) ∧ Below w.heap.size w w' := by
  have b0 := below_alloc1 w (.cells #[.int .i64 x, .int .i64 y, .slice a0 L.length c0, .slice kA kn kC] 52)
  have z0 : (w.alloc (.cells #[.int .i64 x, .int .i64 y, .slice a0 L.length c0, .slice kA kn kC] 52)).cell? ⟨w.heap.size, 0, none⟩ = some (.int .i64 x) := by simp
  have z1 : (w.alloc (.cells #[.int .i64 x, .int .i64 y, .slice a0 L.length c0, .slice kA kn kC] 52)).cell? ⟨w.heap.size, 1, none⟩ = some (.int .i64 y) := by simp
  have z2 : (w.alloc (.cells #[.int .i64 x, .int .i64 y, .slice a0 L.length c0, .slice kA kn kC] 52)).cell? ⟨w.heap.size, 2, none⟩ = some (.slice a0 L.length c0) := by simp
  have z3 : (w.alloc (.cells #[.int .i64 x, .int .i64 y, .slice a0 L.length c0, .slice kA kn kC] 52)).cell? ⟨w.heap.size, 3, none⟩ = some (.slice kA kn kC) := by simp
  go_enter Try.func4, Try.ntmps4
  go_wp2_with fail
  generalize w.alloc (.cells #[.int .i64 x, .int .i64 y, .slice a0 L.length c0, .slice kA kn kC] 52) = W0 at b0 z0 z1 z2 z3 ⊢
  go_region_held3 (fun V => V.cell? ⟨w.heap.size, 0, none⟩ = some (.int .i64 x) ∧ V.cell? ⟨w.heap.size, 1, none⟩ = some (.int .i64 y) ∧ V.cell? ⟨w.heap.size, 2, none⟩ = some (.slice a0 L.length c0) ∧ V.cell? ⟨w.heap.size, 3, none⟩ = some (.slice kA kn kC)) (first | exact ⟨z0, z1, z2, z3⟩ | go_keep) (fail)
  have bD := below2 b0 (below_drew W0)
  clear z0 z1 z2 z3
  go_wp2_with fail
  refine (cF _ bD).mono ?_
  rintro e w2 ⟨rfl, b2⟩
  have b2 := below2 bD b2
  clear cF bD b0
  cases R with
  | false =>
    go_wp2_with fail
    refine (wakes_any _).mono ?_
    rintro e w3 ⟨rfl, b3⟩
    go_wp2_with fail
    go_ret
    exact ⟨rfl, below2 b2 b3⟩
  | true =>
    have hk : (1000 : Int) < (kn : Int) := by
      rcases hR with h | h
      · cases h
      · omega
    clear hR
    go_wp2_with fail
    refine (wakes_any _).mono ?_
    rintro e w3 ⟨rfl, b3⟩
    go_wp2_with fail
    go_ret
    exact ⟨rfl, below2 b2 b3⟩

set_option maxRecDepth 100000 in
theorem logDown_any {H : Type} {enc : TypeId × Value → H} {bs : Nat} {d : DataW H} {pl : List MemPlace} (v : Value) (w : World) (hv : Value.okWide Try.prog w .any bs 52 v) (h : DataW.Trod enc Try.prog w 0 (fun _ => true) true 52 v d pl) :
    Calls Try.prog 4 #[v] w fun e w' => e = .returned (.bool true) ∧ Below w.heap.size w w' := by
  obtain ⟨x, y, a0, L, c0, K, rfl, hx, hy, r1, r2, r3, _, r5⟩ := open_down hv h
  obtain ⟨n, hn, cM⟩ := modR_any x 40 hx.1 hx.2 (by omega) (by omega)
  obtain ⟨r, hr, cM2⟩ := modR_any y 30 hy.1 hy.2 (by omega) (by omega)
  by_cases hf : fairL L
  · have cF := fun V (hb : Below w.heap.size w V) => fair_any a0 L c0 V (r1.kept hb) r2 r3 true ⟨fun _ => hf, fun _ => rfl⟩
    by_cases hK : K.L.length ≤ 1000
    · exact down_good x y n r a0 L c0 K w cM cM2 (by omega) (by omega) hf cF hK r5 r1 r2
    · exact down_no x y a0 L c0 K.a K.L.length K.c w true cF (Or.inr (by omega))
  · have cF := fun V (hb : Below w.heap.size w V) => fair_any a0 L c0 V (r1.kept hb) r2 r3 false ⟨(fun h => by cases h), fun h => absurd h hf⟩
    exact down_no x y a0 L c0 K.a K.L.length K.c w false cF (Or.inl rfl)

end Go.Proofs.Ytlapgalefpenbaa
end

section
namespace Go.Proofs.Ytlapgalefpenbaa.logDown
open Go.ChangeShapes Go.WideShapes Go.ChangeAt Go.RowKit
open Go.ChangeMaps (open_string shut_string)

theorem own : ownKnob Try.prog.godebug = none := by kernel_rfl
theorem laidOut : laidOutB Try.prog = true := by kernel_rfl

set_option maxRecDepth 100000 in
theorem lifted (os : Os) (started : os.Started) (H : Type) (enc : TypeId × Value → H) :
    ReturnsInHanded {} Try.checked os 4 .any (Rows.logDownSpec.pre6 enc Try.prog Try.f4 Rows.logDownRow.domain false) (Rows.logDownSpec.post enc Try.prog Try.f4 false true false false) := by
  refine returnsInHanded_of_change (C := Try.checked) own started (by kernel_rfl) Try.func4
    (ChangeSpec.witness6 (enc := enc) (C := Try.checked) false ⟨#[], #[.agg #[.int .i64 0,.int .i64 0,.slice none 0 0,.slice none 0 0]], []⟩ 8 (by kernel_rfl) (by kernel_rfl) (by kernel_rfl) (by kernel_rfl)) ?_
  intro W base args ds gs before hval0 hW hcnd _
  have hval : ∀ (j : Nat) t v, Try.f4.params[j]? = some t → args[j]? = some v → Value.okWide Try.prog W .any base t v := hval0
  have hW' := hW
  obtain ⟨p, q, hA0, hV, rfl, hfz, hnd⟩ := hW
  have hA : DataW.TrodAll enc Try.prog W 0 (fun _ => true) true Try.f4.params.toList args.toList ds p := hA0
  rw [Try.params4] at hA hval
  obtain ⟨v0, vs0, d0, ds0, p0, q0, hargs, rfl, rfl, h0, r0⟩ := trodAll_cons hA
  obtain ⟨rfl, rfl, rfl⟩ := trodAll_nil r0
  obtain rfl : args = #[v0] := by cases args; simp_all
  obtain ⟨rfl, rfl⟩ := trodVars_none hV
  have k0 := h0
  have lt0 : ∀ x ∈ p0, x.block < W.heap.size := by obtain ⟨m, hm⟩ := k0; exact DataW.trod_lt m _ _ _ hm
  clear hA0 hval0
  refine (logDown_any v0 W (hval 0 52 v0 rfl rfl) h0).mono fun e W' ⟨he, bel⟩ => ?_
  subst he
  exact ⟨_, rfl, _, _, _, [], _, [], hW', trodAll_mk1 (shut_bool Try.underlying4 _), (trodAll_cons_mk (Below.trod laidOut (by kernel_rfl) (of_decide_eq_true (by kernel_rfl)) k0 bel lt0) trodAll_mk0), rfl, bel.frame _, fun h => by cases h⟩

theorem over : Rows.logDownRow.holds Try.pinned (OpenSpec.ofChange Rows.logDownSpec) :=
  OpenClaim.holds_of_wide 4 Try.f4 rfl rfl rfl rfl rfl rfl rfl ⟨rfl, rfl, rfl, rfl, rfl⟩ rfl rfl rfl rfl rfl (by kernel_rfl) Try.func4 (by kernel_rfl)
    (of_decide_eq_true (by kernel_rfl)) (by unfold Func.isWrapper; first | (rw [if_pos (by decide +kernel)]; kernel_rfl) | (rw [if_neg (by decide +kernel)]; exact ⟨rfl, rfl⟩))
    (fun os started H enc _ => lifted os started H enc)

end Go.Proofs.Ytlapgalefpenbaa.logDown
namespace Go.Proofs.Ytlapgalefpenbaa
theorem logDown_holds : Rows.LogDownSaid := logDown.over
#print axioms logDown_holds
end Go.Proofs.Ytlapgalefpenbaa
end

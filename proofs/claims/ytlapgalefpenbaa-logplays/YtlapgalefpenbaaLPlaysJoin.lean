/- LogPlays: for every input the call returns true, and each argument reads afterwards as it did; no condition. -/
import Derived.Test.YtlapgalefpenbaaLRef
import Derived.Test.YtlapgalefpenbaaLSafe
import Derived.Test.YtlapgalefpenbaaLSteps
import Derived.Test.YtlapgalefpenbaaLFull
import Derived.BigQuiet
import Derived.ProofKit
import Derived.OpenShut
import Derived.ShutString
import Derived.ChangeOld
import Derived.Below

section
namespace Go.Proofs.Ytlapgalefpenbaa
open Go.RowKit

theorem bytes_ne {a b : ByteArray} (h : ¬ a = b) : (a.toList == b.toList) = false := by
  rw [beq_eq_false_iff_ne, ByteArray.toList_eq, ByteArray.toList_eq]
  intro q
  exact h (ByteArray.ext (Array.ext' q))

theorem ne_of_get {L M : List ByteArray} {i : Nat} {x y : ByteArray} (hx : L[i]? = some x) (hy : M[i]? = some y) (h : x ≠ y) : ¬ L = M := by
  rintro rfl
  rw [hx] at hy
  exact h (Option.some.inj hy)

set_option maxHeartbeats 1600000 in
set_option maxRecDepth 100000 in
theorem refSame_eq {w : World} {A B : Nat} {b1 b2 : ByteArray} {va vb : Value} {L M : List ByteArray} (ra : Row w A va L) (rb : Row w B vb M) (hl : L.length ≤ 1000000) (hlen : L.length = M.length) :
    Calls Try.prog 22 #[.agg #[.string b1, va], .agg #[.string b2, vb]] w fun e w' => e = .returned (.bool (decide (b1 = b2 ∧ L = M))) ∧ Below w.heap.size w w' := by
  obtain ⟨a1, c1, e1⟩ := ra.len
  obtain ⟨a2, c2, e2⟩ := rb.len
  rw [← hlen] at e2
  have ra2 := ra
  have rb2 := rb
  subst e1 e2
  obtain ⟨R, hR⟩ : ∃ R, R = decide (b1 = b2 ∧ L = M) := ⟨_, rfl⟩
  have HR : Hid (R = decide (b1 = b2 ∧ L = M)) := hR
  have HL : Hid (L.length = M.length) := hlen
  rw [← hR]
  clear hR hlen
  have bel := below2 (below_alloc1 w (.cells #[.string b1, .slice a1 L.length c1] 35)) (below_alloc1 (w.alloc (.cells #[.string b1, .slice a1 L.length c1] 35)) (.cells #[.string b2, .slice a2 L.length c2] 35))
  by_cases hb : b1 = b2
  · subst hb
    have HR2 : R = decide (L = M) := by have := HR.out; simpa using this
    clear HR
    have HR : Hid (R = decide (L = M)) := HR2
    clear HR2
    go_enter Try.func22, Try.ntmps22
    go_wp2_with fail
    go_loopw [5] (fun si wr => ∃ i : Nat, i ≤ L.length ∧ si = .int .i64 (i : Int) ∧ (∀ j, j < i → L[j]? = M[j]?) ∧ Below w.heap.size w wr ∧ wr.cell? ⟨w.heap.size, 1, none⟩ = some (.slice a1 L.length c1) ∧ wr.cell? ⟨w.heap.size + 1, 1, none⟩ = some (.slice a2 L.length c2)) (fun si _ => L.length - (intOf si).toNat)
    case atStart => exact ⟨0, Nat.zero_le _, rfl, (fun j h => by omega), bel, by go_simp, by go_simp⟩
    case round =>
      obtain ⟨i, hi, rfl, hp, hw, k1, k2⟩ := hrel
      by_cases hlt : i < L.length
      · have hlt2 : (i : Int) < (L.length : Int) := by omega
        have hx : L[i]? = some L[i] := by simp [hlt]
        generalize L[i] = x at hx
        have hlt3 : i < M.length := by have := HL.out; omega
        have hy : M[i]? = some M[i] := by simp [hlt3]
        generalize M[i] = y at hy
        obtain ⟨d1, o1, p1, e1, hc1, x1⟩ := ra2.cell hx
        injection e1 with q1 q2 q3
        subst q1 q3
        obtain ⟨d2, o2, p2, e2, hc2, x2⟩ := rb2.cell hy
        injection e2 with q1 q2 q3
        subst q1 q3
        have m1 : wr.cell? ⟨d1, o1 + i, none⟩ = some (.string x) := (hw.cell (p := ⟨d1, o1 + i, none⟩) (World.block_lt_of_cell? w _ x1)).trans x1
        have m2 : wr.cell? ⟨d2, o2 + i, none⟩ = some (.string y) := (hw.cell (p := ⟨d2, o2 + i, none⟩) (World.block_lt_of_cell? w _ x2)).trans x2
        have hpn : x = y → ∀ j, j < i + 1 → L[j]? = M[j]? := by
          intro hxy j hj
          by_cases h : j < i
          · exact hp j h
          · obtain rfl : j = i := by omega
            rw [hx, hy, hxy]
        have hne : x ≠ y → R = false := fun h => by rw [HR.out]; simp [ne_of_get hx hy h]
        clear hp x1 x2 hx hy ra2 rb2 q2 hlt3
        by_cases hxy : x = y
        · have HP : Hid (∀ j, j < i + 1 → L[j]? = M[j]?) := hpn hxy
          clear hpn hne
          subst hxy
          go_wp2_with fail
          go_region_held3 (fun V => V.cell? ⟨w.heap.size, 1, none⟩ = some (.slice (some ⟨d1, o1, none⟩) L.length c1) ∧ V.cell? ⟨w.heap.size + 1, 1, none⟩ = some (.slice (some ⟨d2, o2, none⟩) L.length c2) ∧ V.cell? ⟨d1, o1 + i, none⟩ = some (.string x) ∧ V.cell? ⟨d2, o2 + i, none⟩ = some (.string x)) (first | exact ⟨k1, k2, m1, m2⟩ | go_keep) (fail)
          all_goals go_wp2_with fail
          all_goals go_roundw
          case rel => exact ⟨i + 1, by omega, by go_num, HP.out, hw.drew, k1, k2⟩
          case measure => simp [intOf]; omega
        · have hxy2 := bytes_ne hxy
          have hRf := hne hxy
          subst hRf
          go_wp2_with fail
          go_region_held3 (fun V => V.cell? ⟨w.heap.size, 1, none⟩ = some (.slice (some ⟨d1, o1, none⟩) L.length c1) ∧ V.cell? ⟨w.heap.size + 1, 1, none⟩ = some (.slice (some ⟨d2, o2, none⟩) L.length c2) ∧ V.cell? ⟨d1, o1 + i, none⟩ = some (.string x) ∧ V.cell? ⟨d2, o2 + i, none⟩ = some (.string y)) (first | exact ⟨k1, k2, m1, m2⟩ | go_keep) (fail)
          all_goals go_wp2_with fail
          all_goals go_ret
          all_goals exact ⟨rfl, hw.drew⟩
      · obtain rfl : i = L.length := by omega
        have hRt : R = true := by
          rw [HR.out, decide_eq_true_eq]
          have := HL.out
          refine List.ext_getElem? fun j => ?_
          by_cases h : j < L.length
          · exact hp j h
          · rw [List.getElem?_eq_none (by omega), List.getElem?_eq_none (by omega)]
        subst hRt
        go_wp2_with fail
        go_ret
        exact ⟨rfl, hw⟩
  · have hb2 := bytes_ne hb
    have hRf : R = false := by rw [HR.out]; simp [hb]
    subst hRf
    go_enter Try.func22, Try.ntmps22
    go_wp2_with fail
    go_ret
    exact ⟨rfl, bel⟩

set_option maxHeartbeats 1600000 in
set_option maxRecDepth 100000 in
theorem refSame_any {w : World} {A B : Nat} {b1 b2 : ByteArray} {va vb : Value} {L M : List ByteArray} (ra : Row w A va L) (rb : Row w B vb M) (hl : M.length ≤ 1000000) :
    Calls Try.prog 22 #[.agg #[.string b1, va], .agg #[.string b2, vb]] w fun e w' => e = .returned (.bool (decide (b1 = b2 ∧ L = M))) ∧ Below w.heap.size w w' := by
  by_cases hlen : L.length = M.length
  · exact refSame_eq ra rb (by omega) hlen
  obtain ⟨a1, c1, e1⟩ := ra.len
  obtain ⟨a2, c2, e2⟩ := rb.len
  subst e1 e2
  have hRf : decide (b1 = b2 ∧ L = M) = false := by simp; rintro _ rfl; exact hlen rfl
  rw [hRf]
  have bel := below2 (below_alloc1 w (.cells #[.string b1, .slice a1 L.length c1] 35)) (below_alloc1 (w.alloc (.cells #[.string b1, .slice a1 L.length c1] 35)) (.cells #[.string b2, .slice a2 M.length c2] 35))
  have hlen2 : ((L.length : Int) == (M.length : Int)) = false := by rw [beq_eq_false_iff_ne]; omega
  by_cases hb : b1 = b2
  · subst hb
    go_enter Try.func22, Try.ntmps22
    go_wp2_with fail
    go_ret
    exact ⟨rfl, bel⟩
  · have hb2 := bytes_ne hb
    go_enter Try.func22, Try.ntmps22
    go_wp2_with fail
    go_ret
    exact ⟨rfl, bel⟩

end Go.Proofs.Ytlapgalefpenbaa
end

section
namespace Go.Proofs.Ytlapgalefpenbaa
open Go.RowKit

/-- append of a row to an empty list of the call's own. -/
theorem run_copy_row (w : World) (B H : Nat) (ty : TypeId) (hH : w.heap[H]? = some (.cells #[] 9 (0, 0))) (hB : B ≤ H) (C : Nat) (sv : Value) (L : List ByteArray) (hrow : Row w C sv L) (hlen : L.length ≤ 1000000) :
    ∃ v' w', (Builtin.append_ #[33, 33] ty #[.slice (some ⟨H, 0, none⟩) 0 0, sv]).run Try.prog w = .ok v' w' ∧ Row w' B v' L ∧ Fr (fun k => k = H) w w' ∧ (∀ k, v'.ownBlock = some k → k = H ∨ w.heap.size ≤ k) ∧ ∃ p q r, v' = .slice p q r := by
  obtain ⟨i0, hi, hz0, hz1, hz2⟩ := info_parts Try.info9
  have hlt : H < w.heap.size := (Array.getElem?_eq_some_iff.1 hH).1
  have hown : w.ownsRow B 9 1 (.slice (some ⟨H, 0, none⟩) 0 0) 0 [] := ⟨rfl, Or.inr ⟨H, 0, #[], rfl, hB, hH, Nat.le_refl _, Nat.zero_le _, rfl, rfl⟩⟩
  rcases hrow with ⟨rfl, rfl⟩ | ⟨b, o, cap, cur, rfl, hb, hh, hlc, hoc, hm, hg⟩
  · have hrun := run_append_owned_none (P := Try.prog) (w := w) B 33 ty 9 i0 1 Try.underlying33 hi _ 0 [] hown
    exact ⟨_, _, hrun, Row.of_own (L := []) hown, Fr.refl _ _, fun k e => Or.inl (by cases e; rfl), _, _, _, rfl⟩
  · have hcell : ∀ j, w.cell? ⟨b, j, none⟩ = cur[j]? := fun j => cell_of_row w b j cur _ _ hh
    obtain ⟨v', w', hr, ho, hgr, hk⟩ := run_append_own2 (P := Try.prog) w B 33 ty 9 i0 (.string ⟨#[]⟩) 1 16 Try.underlying33 hi hz0 hz1 hz2 rfl (by decide) _ 0 [] hown ⟨b, o, none⟩ L.length cap (L.map Value.string) (by simp)
      (by
        intro j u hu
        rw [Addr.add_lit, hcell]
        rw [List.getElem?_map, Option.map_eq_some_iff] at hu
        obtain ⟨y, hy, rfl⟩ := hu
        exact hg j y hy)
      (by intro u hu; simp only [List.mem_map] at hu; obtain ⟨y, _, rfl⟩ := hu; rfl) (by unfold maxLen; omega) (by omega) (by omega)
    refine ⟨v', w', hr, Row.of_own (by simpa using ho), ?_, fun k e => ?_, owns_slice ho⟩
    · have f := Fr.of_grown hgr
      exact ⟨f.os, f.tape, f.output, f.size, fun k hk hF => f.block k hk (fun e => hF (by cases e; rfl))⟩
    · rcases hk k e with q | q
      · cases q; exact Or.inl rfl
      · exact Or.inr q

theorem step_copy_row {ops : Array Oper} {o : Oper} {ac : Act} {w : World} {K : Act → World → Prop} {Q : Exit → Act → World → Prop} {E : Prop} (hgd : o.guard = none) (s x : Operand)
    (ho : o.op = .call { callee := .builtin .append, args := #[s, x], argTypes := #[33, 33] })
    (B H : Nat) (hs : ac.eval s = .slice (some ⟨H, 0, none⟩) 0 0) (hH : w.heap[H]? = some (.cells #[] 9 (0, 0))) (hB : B ≤ H) (C : Nat) (sv : Value) (L : List ByteArray) (hx : ac.eval x = sv) (hrow : Row w C sv L) (hlen : L.length ≤ 1000000)
    (h : ∀ v' w', Row w' B v' L → Fr (fun k => k = H) w w' → (∀ k, v'.ownBlock = some k → k = H ∨ w.heap.size ≤ k) → (∃ p q r, v' = .slice p q r) → K (ac.put o.dst v') w') :
    if Region.wanted o (yielded ops ac.tmps) = true then Oper.wp Try.prog o ac w K Q else E := by
  have hw : Region.wanted o (yielded ops ac.tmps) = true := by simp [Region.wanted, hgd]
  rw [if_pos hw]
  obtain ⟨v', w', hr, h2, h3, h4, h5⟩ := run_copy_row w B H o.type hH hB C sv L hrow hlen
  unfold Oper.wp execOp
  simp only [ho, resolve, invoke, builtin, Sem.run_bind, Sem.run_pure, Result.andThen_ok, List.map_toArray, List.map_cons, List.map_nil, hs, hx, hr]
  exact h v' w' h2 h3 h4 h5

theorem Fr.one {H : Nat} {w0 w w' : World} (f : Fr (fun k => k = H) w w') (h : Below w0.heap.size w0 w) (hH : w0.heap.size ≤ H) : Below w0.heap.size w0 w' := f.below h h.size (fun k e => by subst e; exact hH)
theorem Fr.rows {w0 w w' : World} {rv : Value} {L : List ByteArray} (f : Fr (fun k => rv.ownBlock = some k) w w') (h : Below w0.heap.size w0 w) (r : Row w w0.heap.size rv L) : Below w0.heap.size w0 w' := f.below h h.size (fun _ e => (r.blk e).1)

set_option maxHeartbeats 3200000 in
set_option maxRecDepth 100000 in
theorem refAppend_any {w : World} {C : Nat} {bs t : ByteArray} {sv : Value} {L : List ByteArray} (hrow : Row w C sv L) (hl : L.length ≤ 1000) :
    Calls Try.prog 16 #[.agg #[.string bs, sv], .string t] w fun e w' => ∃ v, e = .returned (.agg #[.string bs, v]) ∧ Row w' w.heap.size v (L ++ [t]) ∧ Below w.heap.size w w' := by
  obtain ⟨a1, c1, e1⟩ := hrow.len
  have hrow2 := hrow
  subst e1
  obtain ⟨W, hW⟩ : ∃ W, W = (w.alloc (.cells #[.string bs, .slice a1 L.length c1] 35)).alloc (.cells #[.string ⟨#[]⟩, .slice none 0 0] 35) := ⟨_, rfl⟩
  have bW : Below w.heap.size w W := by rw [hW]; exact below2 (below_alloc1 w _) (below_alloc1 _ _)
  have sW : W.heap.size = w.heap.size + 2 := by rw [hW]; simp
  have k0 : W.cell? ⟨w.heap.size, 0, none⟩ = some (.string bs) := by rw [hW]; go_simp
  have k1 : W.cell? ⟨w.heap.size, 1, none⟩ = some (.slice a1 L.length c1) := by rw [hW]; go_simp
  have e0 : W.heap[w.heap.size + 1]? = some (.cells #[.string ⟨#[]⟩, .slice none 0 0] 35 (0, 0)) := by
    have := heap_alloc_new (w.alloc (.cells #[.string bs, .slice a1 L.length c1] 35)) (.cells #[.string ⟨#[]⟩, .slice none 0 0] 35)
    rw [show (w.alloc (.cells #[.string bs, .slice a1 L.length c1] 35)).heap.size = w.heap.size + 1 by simp] at this
    rw [hW]
    exact this
  have HW : Hid (W = (w.alloc (.cells #[.string bs, .slice a1 L.length c1] 35)).alloc (.cells #[.string ⟨#[]⟩, .slice none 0 0] 35)) := hW
  go_enter Try.func16, Try.ntmps16
  go_wp2_with fail
  rw [← HW.out]
  clear hW HW hrow
  have bD : Below W.heap.size W W.drew := below_drew W
  have hWw : w.heap.size ≤ W.heap.size := by omega
  have kS : ∀ V, Below W.heap.size W V → V.cell? ⟨w.heap.size, 0, none⟩ = some (.string bs) ∧ V.cell? ⟨w.heap.size, 1, none⟩ = some (.slice a1 L.length c1) := fun V h => ⟨(h.cell (p := ⟨w.heap.size, 0, none⟩) (by show w.heap.size < _; omega)).trans k0, (h.cell (p := ⟨w.heap.size, 1, none⟩) (by show w.heap.size < _; omega)).trans k1⟩
  have kS2 : ∀ V x y, Below W.heap.size W V → ((V.setCell ⟨w.heap.size + 1, 0, none⟩ x).setCell ⟨w.heap.size + 1, 1, none⟩ y).cell? ⟨w.heap.size, 0, none⟩ = some (.string bs) ∧ ((V.setCell ⟨w.heap.size + 1, 0, none⟩ x).setCell ⟨w.heap.size + 1, 1, none⟩ y).cell? ⟨w.heap.size, 1, none⟩ = some (.slice a1 L.length c1) := fun V x y h => by
    have hb := (Below.heap_setCell (V.setCell ⟨w.heap.size + 1, 0, none⟩ x) ⟨w.heap.size + 1, 1, none⟩ y w.heap.size (by show w.heap.size ≠ w.heap.size + 1; omega)).trans (Below.heap_setCell V ⟨w.heap.size + 1, 0, none⟩ x w.heap.size (by show w.heap.size ≠ w.heap.size + 1; omega))
    exact ⟨(World.cell?_of_block (a := ⟨w.heap.size, 0, none⟩) hb).trans (kS V h).1, (World.cell?_of_block (a := ⟨w.heap.size, 1, none⟩) hb).trans (kS V h).2⟩
  have kW : ∀ V, Below W.heap.size W V → Hid (Row V C (.slice a1 L.length c1) L) := fun V h => by
    have b := below2 bW h
    exact hrow2.kept (fun k e => b.block k (hrow2.blk e).2)
  have hl1 : L.length ≤ 1000000 := by omega
  have fin8 : ∀ V H v8 w8, Below W.heap.size W V → W.heap.size ≤ H → Row w8 W.heap.size v8 L → Fr (fun k => k = H) V w8 → Hid (Below W.heap.size W w8) ∧ Hid (Row w8 W.heap.size v8 L) ∧ Hid (Row (w8.alloc (.cells #[.string t] 9)) W.heap.size v8 L) ∧ Hid (W.heap.size ≤ w8.heap.size) ∧ Hid (W.heap.size ≤ (w8.alloc (.cells #[.string t] 9)).heap.size) ∧ Hid (Below W.heap.size W (w8.alloc (.cells #[.string t] 9))) := fun V H v8 w8 h hH r f => by
    have b8 := f.one h hH
    have ba := below_alloc1 w8 (.cells #[.string t] 9)
    exact ⟨b8, r, r.kept (fun k e => ba.block k (r.blk e).2), b8.size, Nat.le_trans b8.size ba.size, below2 b8 ba⟩
  have fin9 : ∀ V v8 v9 w9, Below W.heap.size W V → Row V W.heap.size v8 L → Row w9 W.heap.size v9 (L ++ [t]) → Fr (fun k => v8.ownBlock = some k) V w9 →
      w9.cell? ⟨w.heap.size + 1, 0, none⟩ = some (.string ⟨#[]⟩) ∧ w9.cell? ⟨w.heap.size + 1, 1, none⟩ = some (.slice none 0 0) ∧ w9.frozen? ⟨w.heap.size + 1, 0, none⟩ = false ∧ w9.frozen? ⟨w.heap.size + 1, 1, none⟩ = false ∧ Hid (Below W.heap.size W w9) ∧
      Hid (Row ((w9.setCell ⟨w.heap.size + 1, 0, none⟩ (.string bs)).setCell ⟨w.heap.size + 1, 1, none⟩ v9) w.heap.size v9 (L ++ [t])) ∧ Hid (Below w.heap.size w ((w9.setCell ⟨w.heap.size + 1, 0, none⟩ (.string bs)).setCell ⟨w.heap.size + 1, 1, none⟩ v9)) ∧
      ((w9.setCell ⟨w.heap.size + 1, 0, none⟩ (.string bs)).setCell ⟨w.heap.size + 1, 1, none⟩ v9).cell? ⟨w.heap.size + 1, 0, none⟩ = some (.string bs) ∧ ((w9.setCell ⟨w.heap.size + 1, 0, none⟩ (.string bs)).setCell ⟨w.heap.size + 1, 1, none⟩ v9).cell? ⟨w.heap.size + 1, 1, none⟩ = some v9 := fun V v8 v9 w9 h r8 r9 f => by
    have b9 := f.rows h r8
    have e9 := (b9.block (w.heap.size + 1) (by omega)).trans e0
    have hne : ∀ k, v9.ownBlock = some k → k ≠ w.heap.size + 1 := fun k e => by have := (r9.blk e).1; omega
    have r10 : Row ((w9.setCell ⟨w.heap.size + 1, 0, none⟩ (.string bs)).setCell ⟨w.heap.size + 1, 1, none⟩ v9) w.heap.size v9 (L ++ [t]) := by
      have r := (r9.kept (w' := (w9.setCell ⟨w.heap.size + 1, 0, none⟩ (.string bs)).setCell ⟨w.heap.size + 1, 1, none⟩ v9) (fun k e => (Below.heap_setCell _ _ _ _ (hne k e)).trans (Below.heap_setCell _ _ _ _ (hne k e))))
      rcases r with r | ⟨bb, o, cap, cur, e, hb, r⟩
      · exact Or.inl r
      · exact Or.inr ⟨bb, o, cap, cur, e, Nat.le_trans hWw hb, r⟩
    have hs := heap_setCell_same _ (w.heap.size + 1) 1 _ _ v9 (heap_setCell_same w9 (w.heap.size + 1) 0 _ _ (.string bs) e9)
    have b10 : Below w.heap.size w w9 := below2 bW b9
    exact ⟨by simp [World.cell?, e9], by simp [World.cell?, e9], frozen_of_row w9 _ 0 _ _ e9, frozen_of_row w9 _ 1 _ _ e9, b9, r10, (b10.setCell (by show w.heap.size ≤ w.heap.size + 1; omega) _).setCell (by show w.heap.size ≤ w.heap.size + 1; omega) _, by simp [World.cell?, hs], by simp [World.cell?, hs]⟩
  have bA : Hid (Below W.heap.size W (W.drew.alloc (.cells #[] 9))) := below2 bD (below_alloc1 _ _)
  have bT : Hid (Below W.heap.size W (W.drew.alloc (.cells #[.string t] 9))) := below2 bD (below_alloc1 _ _)
  have bAT : Hid (Below W.heap.size W ((W.drew.alloc (.cells #[] 9)).alloc (.cells #[.string t] 9))) := below2 bA.out (below_alloc1 _ _)
  have bTA : Hid (Below W.heap.size W ((W.drew.alloc (.cells #[.string t] 9)).alloc (.cells #[] 9))) := below2 bT.out (below_alloc1 _ _)
  have hA : (W.drew.alloc (.cells #[] 9)).heap[W.heap.size]? = some (.cells #[] 9 (0, 0)) := heap_alloc_new W.drew _
  have hAT : Hid (((W.drew.alloc (.cells #[] 9)).alloc (.cells #[.string t] 9)).heap[W.heap.size]? = some (.cells #[] 9 (0, 0))) := ((below_alloc1 (W.drew.alloc (.cells #[] 9)) _).block W.heap.size (by rw [World.alloc]; simp)).trans hA
  have hTA : Hid (((W.drew.alloc (.cells #[.string t] 9)).alloc (.cells #[] 9)).heap[W.heap.size + 1]? = some (.cells #[] 9 (0, 0))) := by
    have := heap_alloc_new (W.drew.alloc (.cells #[.string t] 9)) (.cells #[] 9)
    rw [show (W.drew.alloc (.cells #[.string t] 9)).heap.size = W.heap.size + 1 by simp] at this
    exact this
  have HA : Hid ((W.drew.alloc (.cells #[] 9)).heap[W.heap.size]? = some (.cells #[] 9 (0, 0))) := hA
  clear hA
  go_region_held3 (fun V => V.cell? ⟨w.heap.size, 0, none⟩ = some (.string bs) ∧ V.cell? ⟨w.heap.size, 1, none⟩ = some (.slice a1 L.length c1))
    (first | exact kS2 _ _ _ b9.out | exact kS _ b9.out | exact kS _ b8a.out | exact kS _ b8.out | exact kS _ bAT.out | exact kS _ bTA.out | exact kS _ bA.out | exact kS _ bT.out | exact kS _ bD)
    (first
      | (have _ := b8; refine step_append_row rfl (.tmp 10) (.tmp 12) rfl W.heap.size _ L (by simp [Act.eval]) r8x.out _ t (by simp [Act.eval]) hc8.out hl1 h8x.out ?_; intro v9 w9 r9 f9 _ hv9; obtain ⟨p9, q9, s9, rfl⟩ := hv9; obtain ⟨y0, y1, z0, z1, b9, r10, b10, u0, u1⟩ := fin9 _ _ _ _ b8x.out r8x.out r9 f9)
      | (refine step_copy_row rfl (.tmp 7) (.tmp 9) rfl W.heap.size W.heap.size (by simp [Act.eval]) HA.out (Nat.le_refl _) C (.slice a1 L.length c1) L (by simp [Act.eval]) (kW _ bA.out).out hl1 ?_; intro v8 w8 r8 f8 g8 hv8; obtain ⟨p8, q8, s8, rfl⟩ := hv8; obtain ⟨b8, r8y, r8x, _, h8x, b8x⟩ := fin8 _ _ _ _ bA.out (Nat.le_refl _) r8 f8; have b8a := b8x; have hc8 : Hid ((w8.alloc (.cells #[.string t] 9)).cell? ⟨w8.heap.size, 0, none⟩ = some (.string t)) := (by show _ = _; simp))
      | (refine step_copy_row rfl (.tmp 7) (.tmp 9) rfl W.heap.size W.heap.size (by simp [Act.eval]) hAT.out (Nat.le_refl _) C (.slice a1 L.length c1) L (by simp [Act.eval]) (kW _ bAT.out).out hl1 ?_; intro v8 w8 r8 f8 g8 hv8; obtain ⟨p8, q8, s8, rfl⟩ := hv8; obtain ⟨b8, r8x, _, h8x, _, b8a⟩ := fin8 _ _ _ _ bAT.out (Nat.le_refl _) r8 f8; have b8x := b8; have hc8 : Hid (w8.cell? ⟨W.heap.size + 1, 0, none⟩ = some (.string t)) := (World.cell?_of_block (a := ⟨W.heap.size + 1, 0, none⟩) (f8.block (W.heap.size + 1) (by simp) (by omega))).trans (by simp))
      | (refine step_copy_row rfl (.tmp 7) (.tmp 9) rfl W.heap.size (W.heap.size + 1) (by simp [Act.eval]) hTA.out (Nat.le_succ _) C (.slice a1 L.length c1) L (by simp [Act.eval]) (kW _ bTA.out).out hl1 ?_; intro v8 w8 r8 f8 g8 hv8; obtain ⟨p8, q8, s8, rfl⟩ := hv8; obtain ⟨b8, r8x, _, h8x, _, b8a⟩ := fin8 _ _ _ _ bTA.out (Nat.le_succ _) r8 f8; have b8x := b8; have hc8 : Hid (w8.cell? ⟨W.heap.size, 0, none⟩ = some (.string t)) := (World.cell?_of_block (a := ⟨W.heap.size, 0, none⟩) (f8.block W.heap.size (by simp; omega) (by omega))).trans (by simp)))
  all_goals go_wp2_with fail
  all_goals refine bodyPost_ret (v := .agg #[.string bs, .slice p9 q9 s9]) ?_ rfl ⟨_, rfl, r10.out, b10.out⟩
  all_goals simp [results, Try.results16, go_sem, u0, u1]

end Go.Proofs.Ytlapgalefpenbaa
end

section
namespace Go.Proofs.Ytlapgalefpenbaa
open Go.RowKit

theorem Try.info35 : (Try.prog.info? 35).map (fun i => (i.zero, i.size, i.bytes)) = some (some (.agg #[.string ⟨#[]⟩, .slice none 0 0]), 2, 40) := by kernel_rfl

/-- A state, and the row that holds its records. -/
structure Sv where
  base : ByteArray
  v : Value
  recs : List ByteArray
def Sv.cells (s : Sv) : List Value := [.string s.base, s.v]
def svc : List Sv → List Value
  | [] => []
  | s :: r => s.cells ++ svc r

theorem svc_append (L M : List Sv) : svc (L ++ M) = svc L ++ svc M := by
  induction L with
  | nil => rfl
  | cons s r ih => simp [svc, ih]
theorem svc_length (L : List Sv) : (svc L).length = L.length * 2 := by
  induction L with
  | nil => rfl
  | cons s r ih => simp [svc, Sv.cells, ih]; omega
theorem svc_get (L : List Sv) (i : Nat) (s : Sv) (h : L[i]? = some s) : (svc L)[i * 2]? = some (.string s.base) ∧ (svc L)[i * 2 + 1]? = some s.v := by
  induction L generalizing i with
  | nil => simp at h
  | cons x r ih =>
    cases i with
    | zero => simp at h; subst h; exact ⟨rfl, rfl⟩
    | succ i =>
      simp at h
      rw [show (i + 1) * 2 = i * 2 + 1 + 1 by omega]
      exact ih i h

structure SRow (w : World) (B : Nat) (sv : Value) (L : List Sv) : Prop where
  own : w.ownsRow B 35 2 sv L.length (svc L)
  each : ∀ s ∈ L, Row w B s.v s.recs

/-- The blocks of the states. -/
def footS (nb : Nat) (nv sv : Value) (L : List Sv) (k : Nat) : Prop := k = nb ∨ nv.ownBlock = some k ∨ sv.ownBlock = some k ∨ ∃ s ∈ L, s.v.ownBlock = some k

/-- The state that is, and those that there were. -/
structure Nw (W w : World) (nb : Nat) (base : ByteArray) (nv : Value) (recs : List ByteArray) (sv : Value) (L : List Sv) : Prop where
  now : w.heap[nb]? = some (.cells #[.string base, nv] 35 (0, 0))
  nB : W.heap.size ≤ nb
  nrow : Row w W.heap.size nv recs
  sts : SRow w W.heap.size sv L
  ne : sv.ownBlock ≠ some nb

section
variable {W w w' : World} {B nb : Nat} {base : ByteArray} {nv sv : Value} {recs : List ByteArray} {L : List Sv}

theorem SRow.blk (h : SRow w B sv L) {k : Nat} (hk : sv.ownBlock = some k) : B ≤ k ∧ k < w.heap.size := h.own.lt k hk
theorem SRow.kept (h : SRow w B sv L) (h1 : ∀ k, sv.ownBlock = some k → w'.heap[k]? = w.heap[k]?) (h2 : ∀ s ∈ L, ∀ k, s.v.ownBlock = some k → w'.heap[k]? = w.heap[k]?) : SRow w' B sv L := by
  refine ⟨⟨h.own.1, ?_⟩, fun s hs => (h.each s hs).kept (h2 s hs)⟩
  rcases h.own.2 with e | ⟨g, cap, cur, rfl, a, b, c⟩
  · exact Or.inl e
  · exact Or.inr ⟨g, cap, cur, rfl, a, (h1 g rfl).trans b, c⟩
theorem SRow.len (h : SRow w B sv L) : ∃ a c, sv = .slice a L.length c ∧ L.length ≤ c := by
  rcases h.own.2 with ⟨rfl, e⟩ | ⟨g, cap, cur, rfl, _, _, c, _⟩
  · rw [e]; exact ⟨_, _, rfl, Nat.le_refl _⟩
  · exact ⟨_, _, rfl, c⟩
theorem SRow.cell (h : SRow w B sv L) {i : Nat} {s : Sv} (hs : L[i]? = some s) : ∃ b c, sv = .slice (some ⟨b, 0, none⟩) L.length c ∧ L.length ≤ c ∧ w.cell? ⟨b, i * 2, none⟩ = some (.string s.base) ∧ w.cell? ⟨b, i * 2 + 1, none⟩ = some s.v := by
  have hlt : i < L.length := (List.getElem?_eq_some_iff.1 hs).1
  have h0 := h.own
  rcases h.own.2 with ⟨_, e⟩ | ⟨g, cap, cur, rfl, _, _, c, _⟩
  · omega
  · obtain ⟨x, y⟩ := svc_get L i s hs
    exact ⟨g, cap, rfl, c, by rw [h0.cellAt _ (by omega)]; exact x, by rw [h0.cellAt _ (by omega)]; exact y⟩

theorem Nw.lt (h : Nw W w nb base nv recs sv L) : ∀ k, footS nb nv sv L k → W.heap.size ≤ k ∧ k < w.heap.size := by
  rintro k (rfl | r | r | ⟨s, hs, r⟩)
  · exact ⟨h.nB, (Array.getElem?_eq_some_iff.1 h.now).1⟩
  · exact h.nrow.blk r
  · exact h.sts.blk r
  · exact (h.sts.each s hs).blk r
theorem Nw.kept (h : Nw W w nb base nv recs sv L) (hk : ∀ k, footS nb nv sv L k → w'.heap[k]? = w.heap[k]?) : Nw W w' nb base nv recs sv L :=
  ⟨(hk nb (Or.inl rfl)).trans h.now, h.nB, h.nrow.kept (fun k r => hk k (Or.inr (Or.inl r))), h.sts.kept (fun k r => hk k (Or.inr (Or.inr (Or.inl r)))) (fun s hs k r => hk k (Or.inr (Or.inr (Or.inr ⟨s, hs, r⟩)))), h.ne⟩
theorem Nw.below (h : Nw W w nb base nv recs sv L) (hb : Below w.heap.size w w') : Nw W w' nb base nv recs sv L := h.kept (fun k r => hb.block k (h.lt k r).2)
theorem Nw.cells (h : Nw W w nb base nv recs sv L) : w.cell? ⟨nb, 0, none⟩ = some (.string base) ∧ w.cell? ⟨nb, 1, none⟩ = some nv ∧ w.frozen? ⟨nb, 0, none⟩ = false ∧ w.frozen? ⟨nb, 1, none⟩ = false :=
  ⟨by simp [World.cell?, h.now], by simp [World.cell?, h.now], frozen_of_row w nb 0 _ _ h.now, frozen_of_row w nb 1 _ _ h.now⟩

/-- A row's block holds texts. -/
theorem Row.ty {rv : Value} {T : List ByteArray} (h : Row w B rv T) {k : Nat} (hk : rv.ownBlock = some k) : ∃ cur, w.heap[k]? = some (.cells cur 9 (0, 0)) := by
  rcases h with ⟨rfl, _⟩ | ⟨b, o, cap, cur, rfl, _, h2, _⟩
  · cases hk
  · cases hk; exact ⟨cur, h2⟩
theorem SRow.ty (h : SRow w B sv L) {k : Nat} (hk : sv.ownBlock = some k) : ∃ cur, w.heap[k]? = some (.cells cur 35 (0, 0)) := by
  rcases h.own.2 with ⟨rfl, _⟩ | ⟨g, cap, cur, rfl, _, h2, _⟩
  · cases hk
  · cases hk; exact ⟨cur, h2⟩
theorem row_ne {rv : Value} {T : List ByteArray} (h : Row w B rv T) {k : Nat} (hk : rv.ownBlock = some k) {j : Nat} {cur : Array Value} (hj : w.heap[j]? = some (.cells cur 35 (0, 0))) : k ≠ j := by
  rintro rfl
  obtain ⟨c, hc⟩ := h.ty hk
  rw [hc] at hj
  injection hj with hj
  injection hj with _ hj _
  exact absurd hj (by decide)

/-- The state that is, written anew. -/
theorem Nw.put (h : Nw W w nb base nv recs sv L) (base' : ByteArray) (nv' : Value) (recs' : List ByteArray) (hr : Row w W.heap.size nv' recs') : Nw W ((w.setCell ⟨nb, 0, none⟩ (.string base')).setCell ⟨nb, 1, none⟩ nv') nb base' nv' recs' sv L ∧ Fr (fun k => some nb = some k) w ((w.setCell ⟨nb, 0, none⟩ (.string base')).setCell ⟨nb, 1, none⟩ nv') := by
  have hb : ∀ k, k ≠ nb → ((w.setCell ⟨nb, 0, none⟩ (.string base')).setCell ⟨nb, 1, none⟩ nv').heap[k]? = w.heap[k]? := fun k hk => (Below.heap_setCell _ _ _ _ hk).trans (Below.heap_setCell _ _ _ _ hk)
  refine ⟨⟨?_, h.nB, hr.kept (fun k r => hb k (row_ne hr r h.now)), h.sts.kept (fun k r => hb k (fun e => h.ne (e ▸ r))) (fun s hs k r => hb k (row_ne (h.sts.each s hs) r h.now)), h.ne⟩, ?_⟩
  · have := heap_setCell_same _ nb 1 _ _ nv' (heap_setCell_same w nb 0 _ _ (.string base') h.now)
    exact this
  · exact ((Fr.refl _ _).set (F := fun k => some nb = some k) (p := ⟨nb, 0, none⟩) (Or.inl rfl) _).set (p := ⟨nb, 1, none⟩) (Or.inl rfl) _

/-- The states that there were: but one. -/
theorem Nw.one (h : Nw W w nb base nv recs sv L) (hW : W.heap.size ≤ w.heap.size) : Nw W (w.alloc (.cells #[.string base, nv] 35)) nb base nv recs (.slice (some ⟨w.heap.size, 0, none⟩) 1 1) [⟨base, nv, recs⟩] := by
  have b := below_alloc1 w (.cells #[.string base, nv] 35)
  have h' := h.below b
  refine ⟨h'.now, h'.nB, h'.nrow, ⟨World.ownsRow_lit w #[.string base, nv] 1 hW (by unfold maxLen; omega) rfl, ?_⟩, ?_⟩
  · intro s hs
    simp at hs
    subst hs
    exact h'.nrow
  · intro e
    have e : w.heap.size = nb := Option.some.inj e
    have := (Array.getElem?_eq_some_iff.1 h.now).1
    omega

theorem Row.one {rv : Value} {T : List ByteArray} (h : Row w B rv T) : rv.oneCell' = true := by
  obtain ⟨a, c, rfl⟩ := h.len
  rfl

/-- One state more. -/
theorem wpList_append_state {ops : Array Oper} {rest : List Oper} {o : Oper} {ac : Act} {Q : Exit → Act → World → Prop} (w : World) (hgd : o.guard = none) (s x : Operand)
    (ho : o.op = .call { callee := .builtin .append, args := #[s, x], argTypes := #[37, 37] })
    (hs : ac.eval s = sv) (hrow : Nw W w nb base nv recs sv L) (a : Nat) (y : Sv) (hx : ac.eval x = .slice (some ⟨a, 0, none⟩) 1 1) (hy0 : w.cell? ⟨a, 0, none⟩ = some (.string y.base)) (hy1 : w.cell? ⟨a, 1, none⟩ = some y.v) (hyr : Row w W.heap.size y.v y.recs) (hlen : L.length ≤ 1000000) (hB : W.heap.size ≤ w.heap.size)
    (h : ∀ v' w', Nw W w' nb base nv recs v' (L ++ [y]) → Fr (fun k => sv.ownBlock = some k) w w' → (∀ k, footS nb nv v' (L ++ [y]) k → footS nb nv sv L k ∨ y.v.ownBlock = some k ∨ (w.heap.size ≤ k ∧ k < w'.heap.size)) → wpList Try.prog ops Q rest (ac.put o.dst v') w') : wpList Try.prog ops Q (o :: rest) ac w := by
  obtain ⟨i0, hi, hz0, hz1, hz2⟩ := info_parts Try.info35
  have hy1c := hyr.one
  obtain ⟨v', w', hr, h2, h3, h4⟩ := run_append_own2 (P := Try.prog) w W.heap.size 37 o.type 35 i0 (.agg #[.string ⟨#[]⟩, .slice none 0 0]) 2 40 Try.underlying37 hi hz0 hz1 hz2 rfl (by decide) sv L.length (svc L) hrow.sts.own ⟨a, 0, none⟩ 1 1 y.cells rfl
    (by
      intro j u hu
      rw [Addr.add_lit]
      match j, hu with
      | 0, hu => simp [Sv.cells] at hu; subst hu; exact hy0
      | 1, hu => simp [Sv.cells] at hu; subst hu; exact hy1)
    (by intro u hu; simp [Sv.cells] at hu; rcases hu with rfl | rfl; · rfl
        · exact hy1c) (by unfold maxLen; omega) (by omega) hB
  have f := Fr.of_grown h3
  have hsty : ∀ k, sv.ownBlock = some k → ∃ cur, w.heap[k]? = some (.cells cur 35 (0, 0)) := fun k e => hrow.sts.ty e
  have hkeep : ∀ (rv : Value) (T : List ByteArray), Row w W.heap.size rv T → Row w' W.heap.size rv T := fun rv T r => r.kept (fun k e => f.block k (r.blk e).2 (fun q => by obtain ⟨cur, hc⟩ := hsty k q; exact row_ne r e hc rfl))
  refine wpList_plain hgd fun K hK => ?_
  unfold Oper.wp execOp
  simp only [ho, resolve, invoke, builtin, Sem.run_bind, Sem.run_pure, Result.andThen_ok, List.map_toArray, List.map_cons, List.map_nil, hs, hx, hr]
  refine hK _ _ (h v' w' ⟨?_, hrow.nB, hkeep _ _ hrow.nrow, ⟨?_, ?_⟩, ?_⟩ f ?_)
  · exact (f.block nb (Array.getElem?_eq_some_iff.1 hrow.now).1 (fun e => hrow.ne e)).trans hrow.now
  · have : svc (L ++ [y]) = svc L ++ y.cells := by rw [svc_append]; simp [svc]
    rw [this, List.length_append]
    exact h2
  · intro z hz
    rcases List.mem_append.1 hz with q | q
    · exact hkeep _ _ (hrow.sts.each z q)
    · simp at q; subst q; exact hkeep _ _ hyr
  · intro e
    rcases h4 nb e with q | q
    · exact hrow.ne q
    · have := (Array.getElem?_eq_some_iff.1 hrow.now).1; omega
  · rintro k (r | r | r | ⟨z, hz, r⟩)
    · exact Or.inl (Or.inl r)
    · exact Or.inl (Or.inr (Or.inl r))
    · rcases h4 k r with q | q
      · exact Or.inl (Or.inr (Or.inr (Or.inl q)))
      · exact Or.inr (Or.inr ⟨q, (h2.lt k r).2⟩)
    · rcases List.mem_append.1 hz with q | q
      · exact Or.inl (Or.inr (Or.inr (Or.inr ⟨z, q, r⟩)))
      · simp at q; subst q; exact Or.inr (Or.inl r)

/-- A log and states beside it. -/
structure Pl (W w : World) (lb g gs n b : Nat) (lbase : ByteArray) (lrecs : List ByteArray) (Q : List ByteArray → Prop) (nb : Nat) (base : ByteArray) (nv : Value) (recs : List ByteArray) (sv : Value) (L : List Sv) (Y : Nat → Prop) : Prop where
  lw : Lw W w lb g gs n b lbase lrecs Q (fun k => footS nb nv sv L k ∨ Y k)
  nw : Nw W w nb base nv recs sv L

variable {lb g gs n b : Nat} {lbase : ByteArray} {lrecs : List ByteArray} {Q : List ByteArray → Prop} {Y : Nat → Prop}

theorem Pl.below (h : Pl W w lb g gs n b lbase lrecs Q nb base nv recs sv L Y) (hb : Below w.heap.size w w') : Pl W w' lb g gs n b lbase lrecs Q nb base nv recs sv L Y :=
  ⟨(h.lw.below hb).less (fun _ x => Or.inl x), h.nw.below hb⟩
theorem Pl.belowN (h : Pl W w lb g gs n b lbase lrecs Q nb base nv recs sv L Y) (hb : Below w.heap.size w w') : Pl W w' lb g gs n b lbase lrecs Q nb base nv recs sv L (fun k => Y k ∨ (w.heap.size ≤ k ∧ k < w'.heap.size)) :=
  ⟨(h.lw.below hb).less (fun _ x => by rcases x with x | x | x; · exact Or.inl (Or.inl x)
                                       · exact Or.inl (Or.inr x)
                                       · exact Or.inr x), h.nw.below hb⟩
theorem Pl.less {Z : Nat → Prop} (h : Pl W w lb g gs n b lbase lrecs Q nb base nv recs sv L Y) (hZ : ∀ k, Z k → Y k) : Pl W w lb g gs n b lbase lrecs Q nb base nv recs sv L Z :=
  ⟨h.lw.less (fun k x => x.elim Or.inl (fun y => Or.inr (hZ k y))), h.nw⟩
/-- A call of the log. -/
theorem Pl.did {lb' b' : Nat} {lbase' : ByteArray} {lrecs' : List ByteArray} {Q' : List ByteArray → Prop} (h : Pl W w lb g gs n b lbase lrecs Q nb base nv recs sv L Y) (l : Lw W w' lb' g gs n b' lbase' lrecs' Q' (fun k => footS nb nv sv L k ∨ Y k)) (k : Kept (fun k => footS nb nv sv L k ∨ Y k) w w') : Pl W w' lb' g gs n b' lbase' lrecs' Q' nb base nv recs sv L Y :=
  ⟨l, h.nw.kept (fun j r => k.2 j (Or.inl r))⟩
/-- The state that is, written anew. -/
theorem Pl.put (h : Pl W w lb g gs n b lbase lrecs Q nb base nv recs sv L Y) (base' : ByteArray) (nv' : Value) (recs' : List ByteArray) (hr : Row w W.heap.size nv' recs') (hY : ∀ k, nv'.ownBlock = some k → footS nb nv sv L k ∨ Y k) :
    Pl W ((w.setCell ⟨nb, 0, none⟩ (.string base')).setCell ⟨nb, 1, none⟩ nv') lb g gs n b lbase lrecs Q nb base' nv' recs' sv L Y := by
  obtain ⟨p, f⟩ := h.nw.put base' nv' recs' hr
  refine ⟨(h.lw.fr f (fun k e => Or.inl (Or.inl (Option.some.inj e).symm)) (fun k e => by have := h.nw.nB; have := Option.some.inj e; omega)).less ?_, p⟩
  rintro k ((r | r | r | r) | r)
  · exact Or.inl (Or.inl (Or.inl r))
  · exact Or.inl (hY k r)
  · exact Or.inl (Or.inl (Or.inr (Or.inr (Or.inl r))))
  · exact Or.inl (Or.inl (Or.inr (Or.inr (Or.inr r))))
  · exact Or.inl (Or.inr r)
/-- But one state. -/
theorem Pl.one (h : Pl W w lb g gs n b lbase lrecs Q nb base nv recs sv L Y) : Pl W (w.alloc (.cells #[.string base, nv] 35)) lb g gs n b lbase lrecs Q nb base nv recs (.slice (some ⟨w.heap.size, 0, none⟩) 1 1) [⟨base, nv, recs⟩] Y := by
  refine ⟨(h.lw.below (below_alloc1 w _)).less ?_, h.nw.one h.lw.bel.size⟩
  rintro k ((r | r | r | ⟨s, hs, r⟩) | r)
  · exact Or.inl (Or.inl (Or.inl r))
  · exact Or.inl (Or.inl (Or.inr (Or.inl r)))
  · have r : w.heap.size = k := Option.some.inj r
    exact Or.inr ⟨by omega, by simp; omega⟩
  · simp at hs
    subst hs
    exact Or.inl (Or.inl (Or.inr (Or.inl r)))
  · exact Or.inl (Or.inr r)
/-- One state more. -/
theorem Pl.push {sv' : Value} {y : Sv} (h : Pl W w lb g gs n b lbase lrecs Q nb base nv recs sv L Y) (p : Nw W w' nb base nv recs sv' (L ++ [y])) (f : Fr (fun k => sv.ownBlock = some k) w w') (hf : ∀ k, footS nb nv sv' (L ++ [y]) k → footS nb nv sv L k ∨ y.v.ownBlock = some k ∨ (w.heap.size ≤ k ∧ k < w'.heap.size)) (hy : ∀ k, y.v.ownBlock = some k → footS nb nv sv L k ∨ Y k) : Pl W w' lb g gs n b lbase lrecs Q nb base nv recs sv' (L ++ [y]) Y := by
  refine ⟨(h.lw.fr f (fun k e => Or.inl (Or.inr (Or.inr (Or.inl e)))) (fun k e => (h.nw.sts.blk e).1)).less ?_, p⟩
  rintro k (r | r)
  · rcases hf k r with q | q | q
    · exact Or.inl (Or.inl q)
    · exact Or.inl (hy k q)
    · exact Or.inr q
  · exact Or.inl (Or.inr r)
end

end Go.Proofs.Ytlapgalefpenbaa
end

section
namespace Go.Proofs.Ytlapgalefpenbaa
open Go.RowKit

def fairL (L : List St) : Prop := (∀ s ∈ L, s.text.size ≤ 20000 ∧ s.keep.L.length ≤ 1000) ∧ L.length ≤ 100

set_option maxHeartbeats 1600000 in
set_option maxRecDepth 100000 in
theorem fair_any (a : Option Addr) (L : List St) (c : Nat) (w : World) (hL : SlG w a 3 St.cells L) (hc : L.length ≤ c) (hcm : c ≤ maxLen) (R : Bool) (HR : Hid (R = true ↔ fairL L)) :
    Calls Try.prog 9 #[.slice a L.length c] w fun e w' => e = .returned (.bool R) ∧ Below w.heap.size w w' := by
  have hcm2 : (L.length : Int) ≤ 9223372036854775807 := by unfold maxLen at hcm; omega
  go_enter Try.func9, Try.ntmps9
  go_wp2_with fail
  go_loopw [3] (fun si wr => ∃ i : Nat, i ≤ L.length ∧ si = .int .i64 (i : Int) ∧ (∀ s ∈ L.take i, s.text.size ≤ 20000 ∧ s.keep.L.length ≤ 1000) ∧ Below w.heap.size w wr) (fun si _ => L.length - (intOf si).toNat)
  case atStart => exact ⟨0, Nat.zero_le _, rfl, by simp, Below.refl _ _⟩
  case round =>
    obtain ⟨i, hi, rfl, hp, hw⟩ := hrel
    by_cases hlt : i < L.length
    · have hlt2 : (i : Int) < (L.length : Int) := by omega
      have hx : L[i]? = some L[i] := by simp [hlt]
      generalize L[i] = x at hx
      have hmem := List.mem_of_getElem? hx
      have htk : L.take (i + 1) = L.take i ++ [x] := by rw [List.take_add_one, hx]; rfl
      rcases hL with hL | ⟨bl, off, rfl, hbl, hrd⟩
      · rw [hL] at hlt; simp at hlt
      have k1 : wr.cell? ⟨bl, off + i * 3 + 1, none⟩ = some (.string x.text) := (hw.cell (p := ⟨bl, off + i * 3 + 1, none⟩) hbl).trans (hrd i x hx 1 _ rfl)
      have k2 : wr.cell? ⟨bl, off + i * 3 + 2, none⟩ = some (.slice x.keep.a x.keep.L.length x.keep.c) := (hw.cell (p := ⟨bl, off + i * 3 + 2, none⟩) hbl).trans (hrd i x hx 2 _ rfl)
      by_cases h1 : x.text.size ≤ 20000
      · have h12 : ¬ (20000 : Int) < (x.text.size : Int) := by omega
        by_cases h2 : x.keep.L.length ≤ 1000
        · have h22 : ¬ (1000 : Int) < (x.keep.L.length : Int) := by omega
          go_wp2_with fail
          go_roundw
          case rel =>
            refine ⟨i + 1, by omega, by go_num, fun s hs => ?_, hw⟩
            rw [htk] at hs
            rcases List.mem_append.1 hs with q | q
            · exact hp s q
            · simp at q; subst q; exact ⟨h1, h2⟩
          case measure => simp [intOf]; omega
        · have h22 : (1000 : Int) < (x.keep.L.length : Int) := by omega
          obtain rfl : R = false := by cases R with
            | false => rfl
            | true => exact absurd ((HR.out.1 rfl).1 x hmem).2 h2
          go_wp2_with fail
          go_ret
          exact ⟨rfl, hw⟩
      · have h12 : (20000 : Int) < (x.text.size : Int) := by omega
        obtain rfl : R = false := by cases R with
          | false => rfl
          | true => exact absurd ((HR.out.1 rfl).1 x hmem).1 h1
        go_wp2_with fail
        go_ret
        exact ⟨rfl, hw⟩
    · obtain rfl : i = L.length := by omega
      rw [List.take_length] at hp
      have HRe : Hid (decide ((L.length : Int) ≤ 100) = R) := by
        show _ = _
        cases R with
        | false =>
          rw [decide_eq_false_iff_not]
          intro h
          exact absurd (HR.out.2 ⟨hp, by omega⟩) (by decide)
        | true =>
          rw [decide_eq_true_eq]
          have := (HR.out.1 rfl).2
          omega
      go_wp2_with fail
      go_ret
      exact ⟨by rw [← HRe.out]; rfl, hw⟩

end Go.Proofs.Ytlapgalefpenbaa
end

section
namespace Go.Proofs.Ytlapgalefpenbaa
open Go.RowKit

def JoinQ (A : Act) (R : World → Prop) : Exit → Act → World → Prop
  | .normal, a, V => a = A ∧ R V
  | _, _, _ => False
def JoinV (A : Value → Act) (R : World → Prop) : Exit → Act → World → Prop
  | .normal, a, V => ∃ v, a = A v ∧ R V
  | _, _, _ => False

theorem wp_join {P : Program} {c : Code} {Q : Exit → Act → World → Prop} {act : Act} {w : World} (A : Act) (R : World → Prop) (h : c.wp P (JoinQ A R) act w) (hk : ∀ V, R V → Q .normal A V) : c.wp P Q act w := by
  refine Code.wp_mono (fun e a V h => ?_) h
  cases e with
  | normal => obtain ⟨rfl, r⟩ := h; exact hk V r
  | _ => exact (h : False).elim
theorem wp_joinV {P : Program} {c : Code} {Q : Exit → Act → World → Prop} {act : Act} {w : World} (A : Value → Act) (R : World → Prop) (h : c.wp P (JoinV A R) act w) (hk : ∀ v V, R V → Q .normal (A v) V) : c.wp P Q act w := by
  refine Code.wp_mono (fun e a V h => ?_) h
  cases e with
  | normal => obtain ⟨v, rfl, r⟩ := h; exact hk v V r
  | _ => exact (h : False).elim

theorem modR_any (k : Int) (n : Nat) (_h0 : -9223372036854775808 ≤ k) (_h1 : k ≤ 9223372036854775807) (hn : 1 ≤ n) (hn2 : n ≤ 100000) :
    ∃ r : Nat, r < n ∧ ∀ w, Calls Try.prog 8 #[.int .i64 k, .int .i64 (n : Int)] w fun e w' => e = .returned (.int .i64 (r : Int)) ∧ w' = w := by
  obtain ⟨r, hr, he, b1, b2⟩ := tmod_mod k n hn
  refine ⟨r, hr, fun w => ?_⟩
  have hz : ((n : Int) == 0) = false := by rw [beq_eq_false_iff_ne]; omega
  have hm1 : ((n : Int) == -1) = false := by rw [beq_eq_false_iff_ne]; omega
  have hlt : decide ((n : Int) < 1) = false := by simp; omega

  generalize hq : k.tmod (n : Int) = q at *
  go_enter Try.func8, Try.ntmps8
  go_wp2_with fail
  go_ret
  exact ⟨rfl, rfl⟩

theorem refSectors_at (k m : Nat) (hk : k ≤ 1000000000) (hm : m = k / 500 + 1) (w : World) : Calls Try.prog 14 #[.int .i64 (k : Int)] w fun e w' => e = .returned (.int .i64 (m : Int)) ∧ Below w.heap.size w w' :=
  (refSectors_any k m hk hm w).mono (by rintro e w' ⟨rfl, rfl⟩; exact ⟨rfl, Below.refl _ _⟩)

theorem refSame_true {w : World} {A B : Nat} {b1 : ByteArray} {va vb : Value} {L : List ByteArray} (ra : Row w A va L) (rb : Row w B vb L) (hl : L.length ≤ 1000000) :
    Calls Try.prog 22 #[.agg #[.string b1, va], .agg #[.string b1, vb]] w fun e w' => e = .returned (.bool true) ∧ Below w.heap.size w w' :=
  (refSame_any ra rb hl).mono (by rintro e w' ⟨rfl, b⟩; exact ⟨by simp, b⟩)

section
variable {W w w' : World} {lb g gs n b nb : Nat} {lbase base : ByteArray} {lrecs recs : List ByteArray} {Q : List ByteArray → Prop} {nv sv : Value} {L : List Sv} {Y : Nat → Prop}

/-- The log's texts are few and short. -/
theorem Lw.few {X : Nat → Prop} (h : Lw W w lb g gs n b lbase lrecs Q X) (hn : n ≤ 64) : lbase.size ≤ 1000000 ∧ lrecs.length ≤ 1000 ∧ ∀ t ∈ lrecs, t.size ≤ 1000000 := by
  have hr := h.room
  have hA : areaN n ≤ 30 := by unfold areaN; omega
  have hl := recs_le lbase lrecs
  refine ⟨?_, by omega, fun t ht => ?_⟩
  · have := secs_mem (t := lbase) (T := lbase :: lrecs) (List.mem_cons_self ..)
    unfold secs at this
    omega
  · have := secs_mem (t := t) (T := lbase :: lrecs) (List.mem_cons_of_mem _ ht)
    unfold secs at this
    omega

/-- A state that nothing was added to. -/
theorem Pl.init (l : Lw W w lb g gs n b base [] Q (fun _ => False)) : Pl W (w.alloc (.cells #[.string base, .slice none 0 0] 35)) lb g gs n b base [] Q w.heap.size base (.slice none 0 0) [] (.slice none 0 0) [] (fun _ => False) := by
  refine ⟨(l.below (below_alloc1 w _)).less ?_, ⟨heap_alloc_new w _, l.bel.size, Or.inl ⟨rfl, rfl⟩, ⟨⟨rfl, Or.inl ⟨rfl, rfl⟩⟩, by simp⟩, by simp [Value.ownBlock]⟩⟩
  rintro k ((r | r | r | ⟨s, hs, r⟩) | r)
  · exact Or.inr ⟨by omega, by simp; omega⟩
  · cases r
  · cases r
  · cases hs
  · cases r
end

end Go.Proofs.Ytlapgalefpenbaa
end

section
namespace Go.Proofs.Ytlapgalefpenbaa
open Go.RowKit

section
variable (sx : Int) (n : Nat) (base : ByteArray) (a0 : Option Addr) (L : List St) (c0 : Nat) (w : World)

set_option maxHeartbeats 1600000 in
set_option maxRecDepth 100000 in
theorem plays_long (cM : ∀ w, Calls Try.prog 8 #[.int .i64 sx, .int .i64 65] w fun e w' => e = .returned (.int .i64 (n : Int)) ∧ w' = w) (h1 : 20000 < base.size) :
    Calls Try.prog 3 #[.int .i64 sx, .string base, .slice a0 L.length c0] w fun e w' => e = .returned (.bool true) ∧ Below w.heap.size w w' := by
  have h2 : (20000 : Int) < (base.size : Int) := by omega
  go_enter Try.func3, Try.ntmps3
  go_wp2_with fail
  refine (cM _).mono ?_
  rintro e w1 ⟨rfl, e1⟩
  rw [e1]
  go_wp2_with fail
  refine (wakes_any _).mono ?_
  rintro e w2 ⟨rfl, b2⟩
  go_wp2_with fail
  go_ret
  exact ⟨rfl, b2⟩

set_option maxHeartbeats 1600000 in
set_option maxRecDepth 100000 in
theorem plays_unfair (cM : ∀ w, Calls Try.prog 8 #[.int .i64 sx, .int .i64 65] w fun e w' => e = .returned (.int .i64 (n : Int)) ∧ w' = w) (h1 : base.size ≤ 20000) (cF : Calls Try.prog 9 #[.slice a0 L.length c0] w fun e w' => e = .returned (.bool false) ∧ Below w.heap.size w w') :
    Calls Try.prog 3 #[.int .i64 sx, .string base, .slice a0 L.length c0] w fun e w' => e = .returned (.bool true) ∧ Below w.heap.size w w' := by
  have h2 : ¬ (20000 : Int) < (base.size : Int) := by omega
  go_enter Try.func3, Try.ntmps3
  go_wp2_with fail
  refine (cM _).mono ?_
  rintro e w1 ⟨rfl, e1⟩
  rw [e1]
  go_wp2_with fail
  refine cF.mono ?_
  rintro e w2 ⟨rfl, b2⟩
  go_wp2_with fail
  refine (wakes_any _).mono ?_
  rintro e w3 ⟨rfl, b3⟩
  go_wp2_with fail
  go_ret
  exact ⟨rfl, below2 b2 b3⟩

set_option maxHeartbeats 1600000 in
set_option maxRecDepth 100000 in
theorem plays_zero (cM : ∀ w, Calls Try.prog 8 #[.int .i64 sx, .int .i64 65] w fun e w' => e = .returned (.int .i64 0) ∧ w' = w) (h1 : base.size ≤ 20000) (cF : Calls Try.prog 9 #[.slice a0 L.length c0] w fun e w' => e = .returned (.bool true) ∧ Below w.heap.size w w') :
    Calls Try.prog 3 #[.int .i64 sx, .string base, .slice a0 L.length c0] w fun e w' => e = .returned (.bool true) ∧ Below w.heap.size w w' := by
  have h2 : ¬ (20000 : Int) < (base.size : Int) := by omega
  go_enter Try.func3, Try.ntmps3
  go_wp2_with fail
  refine (cM _).mono ?_
  rintro e w1 ⟨rfl, e1⟩
  rw [e1]
  go_wp2_with fail
  refine cF.mono ?_
  rintro e w2 ⟨rfl, b2⟩
  go_wp2_with fail
  refine (wakes_any _).mono ?_
  rintro e w3 ⟨rfl, b3⟩
  go_wp2_with fail
  go_ret
  exact ⟨rfl, below2 b2 b3⟩

set_option maxHeartbeats 1600000 in
set_option maxRecDepth 100000 in
theorem plays_small (cM : ∀ w, Calls Try.prog 8 #[.int .i64 sx, .int .i64 65] w fun e w' => e = .returned (.int .i64 (n : Int)) ∧ w' = w) (h1 : base.size ≤ 20000) (cF : Calls Try.prog 9 #[.slice a0 L.length c0] w fun e w' => e = .returned (.bool true) ∧ Below w.heap.size w w') (hn1 : 1 ≤ n) (hn8 : n < 8) :
    Calls Try.prog 3 #[.int .i64 sx, .string base, .slice a0 L.length c0] w fun e w' => e = .returned (.bool true) ∧ Below w.heap.size w w' := by
  have h2 : ¬ (20000 : Int) < (base.size : Int) := by omega
  have hz : ((n : Int) == 0) = false := by rw [beq_eq_false_iff_ne]; omega
  have h8 : (n : Int) < 8 := by omega
  go_enter Try.func3, Try.ntmps3
  go_wp2_with fail
  refine (cM _).mono ?_
  rintro e w1 ⟨rfl, e1⟩
  rw [e1]
  go_wp2_with fail
  refine cF.mono ?_
  rintro e w2 ⟨rfl, b2⟩
  go_wp2_with fail
  refine (new_any n w2 (by omega) (by omega)).mono ?_
  rintro e w3 ⟨g, gs, rfl, d3, b3⟩
  go_wp2_with fail
  refine (format_small d3 hn8 base).mono ?_
  rintro e w4 ⟨rfl, e4⟩
  rw [e4]
  go_wp2_with fail
  refine (wakes_any _).mono ?_
  rintro e w5 ⟨rfl, b5⟩
  go_wp2_with fail
  go_ret
  exact ⟨rfl, below2 (below2 b2 b3) b5⟩

set_option maxHeartbeats 1600000 in
set_option maxRecDepth 100000 in
theorem plays_full (cM : ∀ w, Calls Try.prog 8 #[.int .i64 sx, .int .i64 65] w fun e w' => e = .returned (.int .i64 (n : Int)) ∧ w' = w) (h1 : base.size ≤ 20000) (cF : Calls Try.prog 9 #[.slice a0 L.length c0] w fun e w' => e = .returned (.bool true) ∧ Below w.heap.size w w') (hn8 : 8 ≤ n) (hn64 : n ≤ 64) (hf : areaN n < secs base) :
    Calls Try.prog 3 #[.int .i64 sx, .string base, .slice a0 L.length c0] w fun e w' => e = .returned (.bool true) ∧ Below w.heap.size w w' := by
  have h2 : ¬ (20000 : Int) < (base.size : Int) := by omega
  have hz : ((n : Int) == 0) = false := by rw [beq_eq_false_iff_ne]; omega
  have h8 : ¬ (n : Int) < 8 := by omega
  have cR := fun (V : World) => refRoom_any n hn8 (by omega) base (by omega) 0 (.slice none 0 0) [] V (Or.inl ⟨rfl, rfl⟩) (by simp) (by simp)
  rw [show secsL [base] = secs base from rfl] at cR
  have hd : (areaN n : Int) - (secs base : Int) < 0 := by omega
  have cFo := fun (B : Nat) (w3 : World) (g gs : Nat) (d3 : Dev B w3 g gs (.slice none 0 0) (D0 n)) => format_full d3 hn8 (by show n ≤ 8192; omega) (areaN n) rfl base (by omega) hf
  generalize (areaN n : Int) - (secs base : Int) = r at *
  clear hf
  go_enter Try.func3, Try.ntmps3
  go_wp2_with fail
  refine (cM _).mono ?_
  rintro e w1 ⟨rfl, e1⟩
  rw [e1]
  go_wp2_with fail
  refine cF.mono ?_
  rintro e w2 ⟨rfl, b2⟩
  go_wp2_with fail
  refine (new_any n w2 (by omega) (by omega)).mono ?_
  rintro e w3 ⟨g, gs, rfl, d3, b3⟩
  go_wp2_with fail
  refine (cFo _ w3 g gs d3).mono ?_
  rintro e w4 ⟨rfl, e4⟩
  rw [e4]
  go_wp2_with fail
  refine (cR _).mono ?_
  rintro e w5 ⟨rfl, b5⟩
  go_wp2_with fail
  refine (wakes_any _).mono ?_
  rintro e w6 ⟨rfl, b6⟩
  go_wp2_with fail
  go_ret
  exact ⟨rfl, below2 (below2 (below2 (below2 b2 b3) (below_alloc1 _ _)) b5) b6⟩
end

end Go.Proofs.Ytlapgalefpenbaa
end

section
namespace Go.Proofs.Ytlapgalefpenbaa
open Go.RowKit

theorem JoinV.mk {A : Value → Act} {R : World → Prop} {a : Act} {V : World} (v : Value) (h : a = A v) (r : R V) : JoinV A R .normal a V := ⟨v, h, r⟩
theorem JoinQ.mk {A : Act} {R : World → Prop} {a : Act} {V : World} (h : a = A) (r : R V) : JoinQ A R .normal a V := ⟨h, r⟩
theorem Kept.trans {X : Nat → Prop} {w w' w2 : World} (a : Kept X w w') (b : Kept X w' w2) : Kept X w w2 := ⟨Nat.le_trans a.1 b.1, fun k x => (b.2 k x).trans (a.2 k x)⟩
theorem Row.mono {w : World} {A B : Nat} {rv : Value} {L : List ByteArray} (h : Row w A rv L) (hB : B ≤ A) : Row w B rv L := by
  rcases h with r | ⟨bb, o, cap, cur, e, hb, r⟩
  · exact Or.inl r
  · exact Or.inr ⟨bb, o, cap, cur, e, Nat.le_trans hB hb, r⟩

/-- Was a state found among the first k? -/
def FndB (f : Bool) (M : List Sv) (k : Nat) (T : List ByteArray) : Prop := f = true ↔ ∃ j s, j < k ∧ M[j]? = some s ∧ T = s.base :: s.recs
theorem FndB.start {M : List Sv} {T : List ByteArray} : FndB false M 0 T := ⟨fun h => (by cases h), fun ⟨_, _, h, _⟩ => (by omega)⟩
theorem FndB.more {M : List Sv} {k : Nat} {T : List ByteArray} (h : FndB true M k T) : FndB true M (k + 1) T := by
  refine ⟨fun _ => ?_, fun _ => rfl⟩
  obtain ⟨j, s, a, b⟩ := h.1 rfl
  exact ⟨j, s, by omega, b⟩
theorem belowDrewN (w : World) (k : Nat) : Below w.heap.size w (w.drewN k) := ⟨rfl, rfl, rfl, Nat.le_refl _, fun _ _ => rfl⟩

section
variable (sx : Int) (n : Nat) (base : ByteArray) (a0 : Option Addr) (L : List St) (c0 : Nat) (w : World)

set_option maxHeartbeats 25600000 in
set_option maxRecDepth 100000 in
theorem plays_good (cM : ∀ w, Calls Try.prog 8 #[.int .i64 sx, .int .i64 65] w fun e w' => e = .returned (.int .i64 (n : Int)) ∧ w' = w) (h1 : base.size ≤ 20000) (hfair : fairL L) (cF : Calls Try.prog 9 #[.slice a0 L.length c0] w fun e w' => e = .returned (.bool true) ∧ Below w.heap.size w w') (hn8 : 8 ≤ n) (hn64 : n ≤ 64) (hf : secs base ≤ areaN n) (hL : SlG w a0 3 St.cells L) (hok : ∀ s ∈ L, s.ok w) (hLc : L.length ≤ c0) :
    Calls Try.prog 3 #[.int .i64 sx, .string base, .slice a0 L.length c0] w fun e w' => e = .returned (.bool true) ∧ Below w.heap.size w w' := by
  have h2 : ¬ (20000 : Int) < (base.size : Int) := by omega
  have hz : ((n : Int) == 0) = false := by rw [beq_eq_false_iff_ne]; omega
  have h8 : ¬ (n : Int) < 8 := by omega
  have cR0 := fun (V : World) => refRoom_any n hn8 (by omega) base (by omega) 0 (.slice none 0 0) [] V (Or.inl ⟨rfl, rfl⟩) (by simp) (by simp)
  rw [show secsL [base] = secs base from rfl] at cR0
  have hd : ¬ (areaN n : Int) - (secs base : Int) < 0 := by omega
  generalize (areaN n : Int) - (secs base : Int) = r0 at cR0 hd
  have hA30 : areaN n ≤ 30 := by unfold areaN; omega
  have hL100 := hfair.2
  go_enter Try.func3, Try.ntmps3
  go_wp2_with fail
  refine (cM _).mono ?_
  rintro e w1 ⟨rfl, e1⟩
  rw [e1]
  go_wp2_with fail
  refine cF.mono ?_
  rintro e w2 ⟨rfl, b2⟩
  clear cF cM e1
  go_wp2_with fail
  refine (new_any n w2 (by omega) (by omega)).mono ?_
  rintro e w3 ⟨g, gs, rfl, d3, b3⟩
  go_wp2_with fail
  refine (play_format d3 b3 hn8 (by omega) base hf).mono ?_
  rintro e w4 ⟨lb0, rfl, l4⟩
  have p4 := Pl.init l4
  clear d3 b3 l4
  go_wp2_with fail
  refine (cR0 _).mono ?_
  rintro e w5 ⟨rfl, b5⟩
  have p5 := p4.below b5
  clear p4 cR0 b5
  obtain ⟨nb, hnb⟩ : ∃ nb, w4.heap.size = nb := ⟨_, rfl⟩
  rw [hnb] at p5 ⊢
  clear hnb
  obtain ⟨y0, y1, _, _⟩ := p5.nw.cells
  have p6 := p5.one
  go_wp2_with fail
  generalize w5.alloc (.cells #[.string base, .slice none 0 0] 35) = w6 at p6 ⊢
  clear y0 y1 p5
  go_loopw [10, 13, 14] (fun sl ss si wr => ∃ (i lb b cn c2 : Nat) (an a2 : Option Addr) (bs : ByteArray) (recs : List ByteArray) (M : List Sv) (Q : List ByteArray → Prop), i ≤ L.length ∧ sl = .pointer (some ⟨lb, 0, none⟩) ∧ ss = .slice a2 M.length c2 ∧ si = .int .i64 (i : Int) ∧ b ≤ 60 + 100 * i ∧ M.length ≤ i + 1 ∧ Hid (∀ T, Q T → ∃ s ∈ M, T = s.base :: s.recs) ∧ Hid (∃ s ∈ M, bs :: recs = s.base :: s.recs) ∧ Pl w2 wr lb g gs n b bs recs Q nb bs (.slice an recs.length cn) recs (.slice a2 M.length c2) M (fun _ => False)) (fun _ _ si _ => L.length - (intOf si).toNat)
  case atStart => exact ⟨0, lb0, secs base + 5, 0, 1, none, _, base, [], [⟨base, .slice none 0 0, []⟩], _, Nat.zero_le _, rfl, rfl, rfl, by omega, by simp, fun _ h => h.elim, ⟨_, List.mem_cons_self .., rfl⟩, p6⟩
  case round =>
    clear p6
    obtain ⟨i, lb, b, cn, c2, an, a2, bs, recs, M, Q, hi, rfl, rfl, rfl, hb, hM, HQ, HC, p⟩ := hrel
    by_cases hlt : i < L.length
    · have hlt2 : (i : Int) < (L.length : Int) := by omega
      have hx : L[i]? = some L[i] := by simp [hlt]
      generalize L[i] = x at hx
      have hxm := List.mem_of_getElem? hx
      obtain ⟨hxs, hxk⟩ := hfair.1 x hxm
      obtain ⟨_, _, hxo⟩ := hok x hxm
      clear hxm
      obtain ⟨kind, text, ⟨ka, KL, kc⟩⟩ := x
      dsimp only at hxs hxk
      rcases hL with hL | ⟨bl, off, rfl, hbl, hrd⟩
      · rw [hL] at hlt; simp at hlt
      have hlc2 : (L.length : Int) ≤ (c0 : Int) := by omega
      have bw : Below w.heap.size w wr := below2 b2 p.lw.bel
      have s0 : wr.cell? ⟨bl, off + i * 3, none⟩ = some (.int .i64 kind) := (bw.cell (p := ⟨bl, off + i * 3, none⟩) hbl).trans (hrd i _ hx 0 _ rfl)
      have s1 : wr.cell? ⟨bl, off + i * 3 + 1, none⟩ = some (.string text) := (bw.cell (p := ⟨bl, off + i * 3 + 1, none⟩) hbl).trans (hrd i _ hx 1 _ rfl)
      have s2 : wr.cell? ⟨bl, off + i * 3 + 2, none⟩ = some (.slice ka KL.length kc) := (bw.cell (p := ⟨bl, off + i * 3 + 2, none⟩) hbl).trans (hrd i _ hx 2 _ rfl)
      have bx := below_alloc1 wr (.cells #[.int .i64 kind, .string text, .slice ka KL.length kc] 40)
      have p1 := (p.belowN bx).less (Z := fun k => k = wr.heap.size) (fun k e => Or.inr ⟨by omega, by simp; omega⟩)
      have e1 := heap_alloc_new wr (.cells #[.int .i64 kind, .string text, .slice ka KL.length kc] 40)
      have hSl : SlI (wr.alloc (.cells #[.int .i64 kind, .string text, .slice ka KL.length kc] 40)) ka KL := hxo.sl.kept (below2 bw bx)
      have hKn : ka = none → kc = 0 := hxo.nil
      have hKc : KL.length ≤ kc := hxo.len
      obtain ⟨f1, f2, f3⟩ := p.lw.few hn64
      have hroom := p.lw.room
      clear hrd hx bx hxo p
      by_cases k0 : kind = 0
      · as_aux_lemma =>
          have g0 : (kind == 0) = true := by simpa using k0
          clear k0
          have HH : wr.heap.size < (wr.alloc (.cells #[.int .i64 kind, .string text, .slice ka KL.length kc] 40)).heap.size := by simp
          go_wp2_with fail
          obtain ⟨H, hH⟩ : ∃ H, wr.heap.size = H := ⟨_, rfl⟩
          generalize wr.alloc (.cells #[.int .i64 kind, .string text, .slice ka KL.length kc] 40) = W1 at p1 e1 hSl HH ⊢
          rw [hH] at p1 e1 HH ⊢
          clear hH s0 s1 s2
          obtain ⟨m, hm⟩ : ∃ m, m = secs text := ⟨_, rfl⟩
          have hm41 : m ≤ 41 := by rw [hm]; unfold secs; omega
          have cS := fun V => refSectors_at text.size m (by omega) hm V
          have cR := fun V (h : Below W1.heap.size W1 V) => refRoom_any n hn8 (by omega) bs f1 _ _ recs V (p1.below h).nw.nrow (by omega) f3
          obtain ⟨rm, hrm⟩ : ∃ rm : Int, rm = (areaN n : Int) - (secsL (bs :: recs) : Int) := ⟨_, rfl⟩
          rw [← hrm] at cR
          have HRM : Hid (rm = (areaN n : Int) - (secsL (bs :: recs) : Int) ∧ m = secs text) := ⟨hrm, hm⟩
          have kS : ∀ V, Below W1.heap.size W1 V → V.cell? ⟨nb, 0, none⟩ = some (.string bs) ∧ V.cell? ⟨nb, 1, none⟩ = some (.slice an recs.length cn) ∧ V.cell? ⟨H, 1, none⟩ = some (.string text) := fun V h => by
            have e := (h.block H HH).trans e1
            exact ⟨(p1.below h).nw.cells.1, (p1.below h).nw.cells.2.1, by simp [World.cell?, e]⟩
          have hbD := below_drew W1
          clear hm hrm
          apply wp_join (R := fun V => Below W1.heap.size W1 V)
          case h =>
            have hB := hbD
            go_region_held3 (fun V => V.cell? ⟨nb, 0, none⟩ = some (.string bs) ∧ V.cell? ⟨nb, 1, none⟩ = some (.slice an recs.length cn) ∧ V.cell? ⟨H, 1, none⟩ = some (.string text))
              (exact kS _ hB)
              (first
                | (go_at_call 13; refine (cR _ hB).mono ?_; rintro e wA ⟨rfl, bA⟩; have hB := below2 hB bA)
                | (go_at_call 14; refine (cS _).mono ?_; rintro e wA ⟨rfl, bA⟩; have hB := below2 hB bA))
            all_goals exact JoinQ.mk rfl hB
          intro W2 hB2
          have p2 := p1.below hB2
          have e2 := (hB2.block H HH).trans e1
          have c2t : W2.cell? ⟨H, 1, none⟩ = some (.string text) := by simp [World.cell?, e2]
          clear cR cS kS hbD p1 e1 HH hB2
          by_cases hfu : rm < (m : Int)
          · have hfull : areaN n < secsL (bs :: recs) + secs text := by have := HRM.out; omega
            go_wp2_with fail
            refine (play_append_full p2.lw text (by omega) hfull).mono ?_
            rintro e w3 ⟨rfl, b3⟩
            have p3 := p2.below b3
            clear p2 hfull
            go_wp2_with fail
            have hbD := below_drew w3
            have kS9 : ∀ U, Below w3.heap.size w3 U → U.cell? ⟨nb, 0, none⟩ = some (.string bs) ∧ U.cell? ⟨nb, 1, none⟩ = some (.slice an recs.length cn) := fun U h => ⟨(p3.below h).nw.cells.1, (p3.below h).nw.cells.2.1⟩
            obtain ⟨F1, F2, F3⟩ := p3.lw.few hn64
            have hroom9 := p3.lw.room
            have cSe := fun U (h : Below w3.heap.size w3 U) => seen_any (p3.below h).lw
            have cSa := fun U v B (h : Below w3.heap.size w3 U) (r : Row U B v recs) => refSame_true (b1 := bs) r (p3.below h).nw.nrow (by omega)
            have cRo := fun U (h : Below w3.heap.size w3 U) => play_room (p3.below h).lw
            have cRr := fun U (h : Below w3.heap.size w3 U) => refRoom_any n hn8 (by omega) bs F1 _ _ recs U (p3.below h).nw.nrow (by omega) F3
            have hrr : ((areaN n - secsL (bs :: recs) : Nat) : Int) = (areaN n : Int) - (secsL (bs :: recs) : Int) := by omega
            rw [hrr] at cRo
            clear hrr hroom9
            generalize (areaN n : Int) - (secsL (bs :: recs) : Int) = rr at cRo cRr
            apply wp_joinV (R := fun U => Below w3.heap.size w3 U)
            case h =>
              have hB := hbD
              go_region_held3 (fun U => U.cell? ⟨nb, 0, none⟩ = some (.string bs) ∧ U.cell? ⟨nb, 1, none⟩ = some (.slice an recs.length cn))
                (exact kS9 _ hB)
                (first
                  | (go_at_call 21; refine (cSe _ hB).mono ?_; rintro e wA ⟨v, rfl, rA, bA⟩; have hB := below2 hB bA)
                  | (go_at_call 22; refine (cSa _ _ _ hB rA).mono ?_; rintro e wB ⟨rfl, bB⟩; have hB := below2 hB bB)
                  | (go_at_call 23; refine (cRo _ hB).mono ?_; rintro e wC ⟨rfl, bC⟩; have hB := below2 hB bC)
                  | (go_at_call 13; refine (cRr _ hB).mono ?_; rintro e wC ⟨rfl, bC⟩; have hB := below2 hB bC))
              all_goals exact JoinV.mk v rfl hB
            intro v9 V9 hB9
            clear cSe cSa cRo cRr kS9
            go_wp2_with fail
            go_roundw
            case rel => exact ⟨i + 1, lb, b, cn, c2, an, a2, bs, recs, M, _, by omega, rfl, rfl, by go_num, by omega, by omega, HQ, HC, (p3.below hB9).less (Z := fun _ => False) (fun _ x => False.elim x)⟩
            case measure => simp [intOf]; omega
          · have hfits : secsL (bs :: recs) + secs text ≤ areaN n := by have := HRM.out; omega
            obtain ⟨R, hR⟩ : ∃ R, R = recs ++ [text] := ⟨_, rfl⟩
            have cA := play_append p2.lw text hfits (by have := HRM.out.2; omega)
            rw [← hR, ← HRM.out.2] at cA
            have HRe : Hid (R = recs ++ [text]) := hR
            clear hR hfits
            go_wp2_with fail
            refine cA.mono ?_
            rintro e w3 ⟨rfl, l3, k3⟩
            have p3 := p2.did l3 k3
            have e3 := (k3.2 H (Or.inr rfl)).trans e2
            have c3t : w3.cell? ⟨H, 1, none⟩ = some (.string text) := by simp [World.cell?, e3]
            obtain ⟨y30, y31, _, _⟩ := p3.nw.cells
            clear l3 k3 cA p2 e2
            go_wp2_with fail
            refine (refAppend_any p3.nw.nrow f2).mono ?_
            rintro e w4 ⟨v4, rfl, r4, b4⟩
            rw [← HRe.out] at r4
            have p4 := p3.belowN b4
            have e4 := (b4.block H (Array.getElem?_eq_some_iff.1 e3).1).trans e3
            obtain ⟨y40, y41, z40, z41⟩ := p4.nw.cells
            have hw4 : w2.heap.size ≤ w4.heap.size := p4.lw.bel.size
            obtain ⟨a4, c4, hv4⟩ := r4.len
            subst hv4
            have p5 := p4.put bs _ R (r4.mono p3.lw.bel.size) (fun k e => Or.inr (Or.inr (r4.blk e)))
            have p6 := p5.below (below_alloc1 _ (.cells #[.string bs, .slice a4 R.length c4] 35))
            obtain ⟨y50, y51, _, _⟩ := p5.nw.cells
            obtain ⟨M', hM'⟩ : ∃ M', M' = M ++ [⟨bs, .slice a4 R.length c4, R⟩] := ⟨_, rfl⟩
            have HM : Hid (M' = M ++ [⟨bs, .slice a4 R.length c4, R⟩]) := hM'
            have P6 : Hid (Pl w2 (((w4.setCell ⟨nb, 0, none⟩ (.string bs)).setCell ⟨nb, 1, none⟩ (.slice a4 R.length c4)).alloc (.cells #[.string bs, .slice a4 R.length c4] 35)) lb g gs n (b + (m + 4)) bs R (fun T => T = bs :: recs) nb bs (.slice a4 R.length c4) R (.slice a2 M.length c2) M (fun k => k = H ∨ (w3.heap.size ≤ k ∧ k < w4.heap.size))) := p6
            clear p6 p3 hM' e4 y30 y31 c3t
            go_wp2_with (at_builtin; refine wpList_append_state _ rfl (.tmp 128) (.tmp 130) rfl rfl P6.out.nw w4.heap.size ⟨bs, .slice a4 R.length c4, R⟩ rfl (by go_simp) (by go_simp) P6.out.nw.nrow (by omega) P6.out.lw.bel.size ?_; intro v7 w7 n7 f7 g7; have p7 := P6.out.push n7 f7 g7 (fun k e => Or.inl (Or.inr (Or.inl e))); rw [← HM.out] at p7; obtain ⟨a7, c7, hv7, _⟩ := p7.nw.sts.len; subst hv7; clear n7 f7 g7)
            have hlen7 : M'.length = M.length + 1 := by rw [HM.out]; simp
            have HQ7 : Hid (∀ T, T = bs :: recs → ∃ s ∈ M', T = s.base :: s.recs) := by
              rintro T rfl
              obtain ⟨s, hs, e⟩ := HC.out
              exact ⟨s, by rw [HM.out]; exact List.mem_append_left _ hs, e⟩
            have HC7 : Hid (∃ s ∈ M', bs :: R = s.base :: s.recs) := ⟨_, by rw [HM.out]; exact List.mem_append_right _ (List.mem_cons_self ..), rfl⟩
            have HB7 : Hid (M'.length ≤ i + 1 + 1) := by show _ ≤ _; omega
            clear P6 HM hlen7
            have hbD := below_drew w7
            have kS9 : ∀ U, Below w7.heap.size w7 U → U.cell? ⟨nb, 0, none⟩ = some (.string bs) ∧ U.cell? ⟨nb, 1, none⟩ = some (.slice a4 R.length c4) := fun U h => ⟨(p7.below h).nw.cells.1, (p7.below h).nw.cells.2.1⟩
            obtain ⟨F1, F2, F3⟩ := p7.lw.few hn64
            have hroom9 := p7.lw.room
            have cSe := fun U (h : Below w7.heap.size w7 U) => seen_any (p7.below h).lw
            have cSa := fun U v B (h : Below w7.heap.size w7 U) (r : Row U B v R) => refSame_true (b1 := bs) r (p7.below h).nw.nrow (by omega)
            have cRo := fun U (h : Below w7.heap.size w7 U) => play_room (p7.below h).lw
            have cRr := fun U (h : Below w7.heap.size w7 U) => refRoom_any n hn8 (by omega) bs F1 _ _ R U (p7.below h).nw.nrow (by omega) F3
            have hrr : ((areaN n - secsL (bs :: R) : Nat) : Int) = (areaN n : Int) - (secsL (bs :: R) : Int) := by omega
            rw [hrr] at cRo
            clear hrr hroom9
            generalize (areaN n : Int) - (secsL (bs :: R) : Int) = rr at cRo cRr
            apply wp_joinV (R := fun U => Below w7.heap.size w7 U)
            case h =>
              have hB := hbD
              go_region_held3 (fun U => U.cell? ⟨nb, 0, none⟩ = some (.string bs) ∧ U.cell? ⟨nb, 1, none⟩ = some (.slice a4 R.length c4))
                (exact kS9 _ hB)
                (first
                  | (go_at_call 21; refine (cSe _ hB).mono ?_; rintro e wA ⟨v, rfl, rA, bA⟩; have hB := below2 hB bA)
                  | (go_at_call 22; refine (cSa _ _ _ hB rA).mono ?_; rintro e wB ⟨rfl, bB⟩; have hB := below2 hB bB)
                  | (go_at_call 23; refine (cRo _ hB).mono ?_; rintro e wC ⟨rfl, bC⟩; have hB := below2 hB bC)
                  | (go_at_call 13; refine (cRr _ hB).mono ?_; rintro e wC ⟨rfl, bC⟩; have hB := below2 hB bC))
              all_goals exact JoinV.mk v rfl hB
            intro v9 V9 hB9
            clear cSe cSa cRo cRr kS9
            go_wp2_with fail
            go_roundw
            case rel => exact ⟨i + 1, lb, (b + (m + 4)), c4, c7, a4, a7, bs, R, M', _, by omega, rfl, rfl, by go_num, by omega, HB7.out, HQ7, HC7, (p7.below hB9).less (Z := fun _ => False) (fun _ x => False.elim x)⟩
            case measure => simp [intOf]; omega
      · have g0 : (kind == 0) = false := by rw [beq_eq_false_iff_ne]; exact k0
        clear k0
        by_cases k1 : kind = 1
        · as_aux_lemma =>
            have g1 : (kind == 1) = true := by simpa using k1
            clear k1
            have cFl := play_flush p1.lw (by omega)
            go_wp2_with fail
            refine cFl.mono ?_
            rintro e w2 ⟨rfl, l2, k2⟩
            have p2 := p1.did l2 k2
            obtain ⟨y0, y1, _, _⟩ := p2.nw.cells
            have p3 := p2.one
            clear l2 k2 cFl p1 e1 s0 s1 s2 p2 hSl
            go_wp2_with fail
            generalize w2.alloc (.cells #[.string bs, .slice an recs.length cn] 35) = w3 at p3 ⊢
            clear y0 y1
            have hbD := below_drew w3
            have kS9 : ∀ U, Below w3.heap.size w3 U → U.cell? ⟨nb, 0, none⟩ = some (.string bs) ∧ U.cell? ⟨nb, 1, none⟩ = some (.slice an recs.length cn) := fun U h => ⟨(p3.below h).nw.cells.1, (p3.below h).nw.cells.2.1⟩
            obtain ⟨F1, F2, F3⟩ := p3.lw.few hn64
            have hroom9 := p3.lw.room
            have cSe := fun U (h : Below w3.heap.size w3 U) => seen_any (p3.below h).lw
            have cSa := fun U v B (h : Below w3.heap.size w3 U) (r : Row U B v recs) => refSame_true (b1 := bs) r (p3.below h).nw.nrow (by omega)
            have cRo := fun U (h : Below w3.heap.size w3 U) => play_room (p3.below h).lw
            have cRr := fun U (h : Below w3.heap.size w3 U) => refRoom_any n hn8 (by omega) bs F1 _ _ recs U (p3.below h).nw.nrow (by omega) F3
            have hrr : ((areaN n - secsL (bs :: recs) : Nat) : Int) = (areaN n : Int) - (secsL (bs :: recs) : Int) := by omega
            rw [hrr] at cRo
            clear hrr hroom9
            generalize (areaN n : Int) - (secsL (bs :: recs) : Int) = rr at cRo cRr
            apply wp_joinV (R := fun U => Below w3.heap.size w3 U)
            case h =>
              have hB := hbD
              go_region_held3 (fun U => U.cell? ⟨nb, 0, none⟩ = some (.string bs) ∧ U.cell? ⟨nb, 1, none⟩ = some (.slice an recs.length cn))
                (exact kS9 _ hB)
                (first
                  | (go_at_call 21; refine (cSe _ hB).mono ?_; rintro e wA ⟨v, rfl, rA, bA⟩; have hB := below2 hB bA)
                  | (go_at_call 22; refine (cSa _ _ _ hB rA).mono ?_; rintro e wB ⟨rfl, bB⟩; have hB := below2 hB bB)
                  | (go_at_call 23; refine (cRo _ hB).mono ?_; rintro e wC ⟨rfl, bC⟩; have hB := below2 hB bC)
                  | (go_at_call 13; refine (cRr _ hB).mono ?_; rintro e wC ⟨rfl, bC⟩; have hB := below2 hB bC))
              all_goals exact JoinV.mk v rfl hB
            intro v9 V9 hB9
            clear cSe cSa cRo cRr kS9
            go_wp2_with fail
            go_roundw
            case rel => exact ⟨i + 1, lb, (b + 1), cn, 1, an, _, bs, recs, [⟨bs, .slice an recs.length cn, recs⟩], _, by omega, rfl, rfl, by go_num, by omega, by simp, (fun _ (h : False) => h.elim), ⟨_, List.mem_cons_self .., rfl⟩, (p3.below hB9).less (Z := fun _ => False) (fun _ x => False.elim x)⟩
            case measure => simp [intOf]; omega
        · have g1 : (kind == 1) = false := by rw [beq_eq_false_iff_ne]; exact k1
          clear k1
          by_cases k2 : kind = 2
          · as_aux_lemma =>
              have g2 : (kind == 2) = true := by simpa using k2
              clear k2
              have HH : wr.heap.size < (wr.alloc (.cells #[.int .i64 kind, .string text, .slice ka KL.length kc] 40)).heap.size := by simp
              have c1t : (wr.alloc (.cells #[.int .i64 kind, .string text, .slice ka KL.length kc] 40)).cell? ⟨wr.heap.size, 1, none⟩ = some (.string text) := by simp
              obtain ⟨m, hm⟩ : ∃ m, m = secs text := ⟨_, rfl⟩
              have hm41 : m ≤ 41 := by rw [hm]; unfold secs; omega
              have cR := fun (V : World) => refRoom_any n hn8 (by omega) text (by omega) 0 (.slice none 0 0) [] V (Or.inl ⟨rfl, rfl⟩) (by simp) (by simp)
              rw [show secsL [text] = secs text from rfl, ← hm] at cR
              obtain ⟨rm, hrm⟩ : ∃ rm : Int, rm = (areaN n : Int) - (m : Int) := ⟨_, rfl⟩
              rw [← hrm] at cR
              have HRM : Hid (rm = (areaN n : Int) - (m : Int) ∧ m = secs text) := ⟨hrm, hm⟩
              clear hm hrm
              go_wp2_with fail
              refine (cR _).mono ?_
              rintro e W2 ⟨rfl, hB2⟩
              have p2 := p1.below hB2
              have e2 := (hB2.block wr.heap.size HH).trans e1
              obtain ⟨H, hH⟩ : ∃ H, wr.heap.size = H := ⟨_, rfl⟩
              rw [hH] at p2 e2 ⊢
              have c2t : W2.cell? ⟨H, 1, none⟩ = some (.string text) := by simp [World.cell?, e2]
              clear cR p1 e1 HH hB2 c1t s0 s1 s2 hSl hH
              by_cases hfu : rm < 0
              · have hfull : areaN n < secs text := by have := HRM.out; omega
                go_wp2_with fail
                refine (play_replace_full p2.lw text (by omega) hfull).mono ?_
                rintro e w3 ⟨rfl, b3⟩
                have p3 := p2.below b3
                clear p2 hfull
                go_wp2_with fail
                have hbD := below_drew w3
                have kS9 : ∀ U, Below w3.heap.size w3 U → U.cell? ⟨nb, 0, none⟩ = some (.string bs) ∧ U.cell? ⟨nb, 1, none⟩ = some (.slice an recs.length cn) := fun U h => ⟨(p3.below h).nw.cells.1, (p3.below h).nw.cells.2.1⟩
                obtain ⟨F1, F2, F3⟩ := p3.lw.few hn64
                have hroom9 := p3.lw.room
                have cSe := fun U (h : Below w3.heap.size w3 U) => seen_any (p3.below h).lw
                have cSa := fun U v B (h : Below w3.heap.size w3 U) (r : Row U B v recs) => refSame_true (b1 := bs) r (p3.below h).nw.nrow (by omega)
                have cRo := fun U (h : Below w3.heap.size w3 U) => play_room (p3.below h).lw
                have cRr := fun U (h : Below w3.heap.size w3 U) => refRoom_any n hn8 (by omega) bs F1 _ _ recs U (p3.below h).nw.nrow (by omega) F3
                have hrr : ((areaN n - secsL (bs :: recs) : Nat) : Int) = (areaN n : Int) - (secsL (bs :: recs) : Int) := by omega
                rw [hrr] at cRo
                clear hrr hroom9
                generalize (areaN n : Int) - (secsL (bs :: recs) : Int) = rr at cRo cRr
                apply wp_joinV (R := fun U => Below w3.heap.size w3 U)
                case h =>
                  have hB := hbD
                  go_region_held3 (fun U => U.cell? ⟨nb, 0, none⟩ = some (.string bs) ∧ U.cell? ⟨nb, 1, none⟩ = some (.slice an recs.length cn))
                    (exact kS9 _ hB)
                    (first
                      | (go_at_call 21; refine (cSe _ hB).mono ?_; rintro e wA ⟨v, rfl, rA, bA⟩; have hB := below2 hB bA)
                      | (go_at_call 22; refine (cSa _ _ _ hB rA).mono ?_; rintro e wB ⟨rfl, bB⟩; have hB := below2 hB bB)
                      | (go_at_call 23; refine (cRo _ hB).mono ?_; rintro e wC ⟨rfl, bC⟩; have hB := below2 hB bC)
                      | (go_at_call 13; refine (cRr _ hB).mono ?_; rintro e wC ⟨rfl, bC⟩; have hB := below2 hB bC))
                  all_goals exact JoinV.mk v rfl hB
                intro v9 V9 hB9
                clear cSe cSa cRo cRr kS9
                go_wp2_with fail
                go_roundw
                case rel => exact ⟨i + 1, lb, b, cn, c2, an, a2, bs, recs, M, _, by omega, rfl, rfl, by go_num, by omega, by omega, HQ, HC, (p3.below hB9).less (Z := fun _ => False) (fun _ x => False.elim x)⟩
                case measure => simp [intOf]; omega
              · have hfits : secs text ≤ areaN n := by have := HRM.out; omega
                have cA := play_replace p2.lw text hfits (by have := HRM.out.2; omega)
                rw [← HRM.out.2] at cA
                clear hfits
                go_wp2_with fail
                refine cA.mono ?_
                rintro e w3 ⟨rfl, l3, k3⟩
                have p3 := p2.did l3 k3
                have e3 := (k3.2 H (Or.inr rfl)).trans e2
                have c3t : w3.cell? ⟨H, 1, none⟩ = some (.string text) := by simp [World.cell?, e3]
                obtain ⟨y30, y31, z30, z31⟩ := p3.nw.cells
                have p5 := p3.put text (.slice none 0 0) [] (Or.inl ⟨rfl, rfl⟩) (fun k e => by cases e)
                have p6 := p5.below (below_alloc1 _ (.cells #[.string text, .slice none 0 0] 35))
                obtain ⟨y50, y51, _, _⟩ := p5.nw.cells
                obtain ⟨M', hM'⟩ : ∃ M', M' = M ++ [⟨text, .slice none 0 0, []⟩] := ⟨_, rfl⟩
                have HM : Hid (M' = M ++ [⟨text, .slice none 0 0, []⟩]) := hM'
                have P6 : Hid (Pl w2 (((w3.setCell ⟨nb, 0, none⟩ (.string text)).setCell ⟨nb, 1, none⟩ (.slice none 0 0)).alloc (.cells #[.string text, .slice none 0 0] 35)) lb g gs n (b + (m + 4)) text [] (fun T => T = bs :: recs) nb text (.slice none 0 0) [] (.slice a2 M.length c2) M (fun k => k = H)) := p6
                clear p6 p3 hM' l3 k3 cA p2 e2
                go_wp2_with (at_builtin; refine wpList_append_state _ rfl (.tmp 169) (.tmp 171) rfl rfl P6.out.nw w3.heap.size ⟨text, .slice none 0 0, []⟩ rfl (by go_simp) (by go_simp) P6.out.nw.nrow (by omega) P6.out.lw.bel.size ?_; intro v7 w7 n7 f7 g7; have p7 := P6.out.push n7 f7 g7 (fun k e => Or.inl (Or.inr (Or.inl e))); rw [← HM.out] at p7; obtain ⟨a7, c7, hv7, _⟩ := p7.nw.sts.len; subst hv7; clear n7 f7 g7)
                have hlen7 : M'.length = M.length + 1 := by rw [HM.out]; simp
                have HQ7 : Hid (∀ T, T = bs :: recs → ∃ s ∈ M', T = s.base :: s.recs) := by
                  rintro T rfl
                  obtain ⟨s, hs, e⟩ := HC.out
                  exact ⟨s, by rw [HM.out]; exact List.mem_append_left _ hs, e⟩
                have HC7 : Hid (∃ s ∈ M', text :: [] = s.base :: s.recs) := ⟨_, by rw [HM.out]; exact List.mem_append_right _ (List.mem_cons_self ..), rfl⟩
                have HB7 : Hid (M'.length ≤ i + 1 + 1) := by show _ ≤ _; omega
                clear P6 HM hlen7 y30 y31 z30 z31 y50 y51 c3t c2t
                have hbD := below_drew w7
                have kS9 : ∀ U, Below w7.heap.size w7 U → U.cell? ⟨nb, 0, none⟩ = some (.string text) ∧ U.cell? ⟨nb, 1, none⟩ = some (.slice none 0 0) := fun U h => ⟨(p7.below h).nw.cells.1, (p7.below h).nw.cells.2.1⟩
                obtain ⟨F1, F2, F3⟩ := p7.lw.few hn64
                have hroom9 := p7.lw.room
                have cSe := fun U (h : Below w7.heap.size w7 U) => seen_any (p7.below h).lw
                have cSa := fun U v B (h : Below w7.heap.size w7 U) (r : Row U B v ([] : List ByteArray)) => refSame_true (b1 := text) r (p7.below h).nw.nrow (by omega)
                have cRo := fun U (h : Below w7.heap.size w7 U) => play_room (p7.below h).lw
                have cRr := fun U (h : Below w7.heap.size w7 U) => refRoom_any n hn8 (by omega) text F1 _ _ ([] : List ByteArray) U (p7.below h).nw.nrow (by omega) F3
                have hrr : ((areaN n - secsL (text :: ([] : List ByteArray)) : Nat) : Int) = (areaN n : Int) - (secsL (text :: ([] : List ByteArray)) : Int) := by omega
                rw [hrr] at cRo
                clear hrr hroom9
                generalize (areaN n : Int) - (secsL (text :: ([] : List ByteArray)) : Int) = rr at cRo cRr
                apply wp_joinV (R := fun U => Below w7.heap.size w7 U)
                case h =>
                  have hB := hbD
                  go_region_held3 (fun U => U.cell? ⟨nb, 0, none⟩ = some (.string text) ∧ U.cell? ⟨nb, 1, none⟩ = some (.slice none 0 0))
                    (exact kS9 _ hB)
                    (first
                      | (go_at_call 21; refine (cSe _ hB).mono ?_; rintro e wA ⟨v, rfl, rA, bA⟩; have hB := below2 hB bA)
                      | (go_at_call 22; refine (cSa _ _ _ hB rA).mono ?_; rintro e wB ⟨rfl, bB⟩; have hB := below2 hB bB)
                      | (go_at_call 23; refine (cRo _ hB).mono ?_; rintro e wC ⟨rfl, bC⟩; have hB := below2 hB bC)
                      | (go_at_call 13; refine (cRr _ hB).mono ?_; rintro e wC ⟨rfl, bC⟩; have hB := below2 hB bC))
                  all_goals exact JoinV.mk v rfl hB
                intro v9 V9 hB9
                clear cSe cSa cRo cRr kS9
                go_wp2_with fail
                go_roundw
                case rel => exact ⟨i + 1, lb, (b + (m + 4)), 0, c7, none, a7, text, ([] : List ByteArray), M', _, by omega, rfl, rfl, by go_num, by omega, HB7.out, HQ7, HC7, (p7.below hB9).less (Z := fun _ => False) (fun _ x => False.elim x)⟩
                case measure => simp [intOf]; omega
          · have g2 : (kind == 2) = false := by rw [beq_eq_false_iff_ne]; exact k2
            clear k2
            by_cases k3 : kind = 3
            · as_aux_lemma =>
                have g3 : (kind == 3) = true := by simpa using k3
                clear k3
                have cb2 : ((wr.alloc (.cells #[.int .i64 kind, .string text, .slice ka KL.length kc] 40)).alloc (.cells #[] 3)).cell? ⟨wr.heap.size, 2, none⟩ = some (.slice ka KL.length kc) := by simp
                have c12 : (wr.alloc (.cells #[.int .i64 kind, .string text, .slice ka KL.length kc] 40)).cell? ⟨wr.heap.size, 2, none⟩ = some (.slice ka KL.length kc) := by simp
                go_wp2_with (at_builtin; refine wpList_copy_ints rfl (.tmp 180) (.tmp 182) rfl (wr.alloc (.cells #[.int .i64 kind, .string text, .slice ka KL.length kc] 40)) (wr.heap.size + 1) (by simp) rfl ka KL kc rfl hSl hKn hKc (by omega) ?_; intro cb cc wk bk hcb hcb2 slk)
                have pk := p1.belowN bk
                refine (play_crash pk.lw (by omega) KL (some ⟨cb, 0, none⟩) cc slk (by intro x1 x2 e _; cases e; exact Or.inr (Or.inr (Or.inr ⟨hcb, hcb2⟩)))).mono ?_
                rintro e wm ⟨rfl, dm, km⟩
                have HT : Hid (∀ T, (T = bs :: recs ∨ Q T) → ∃ s ∈ M, T = s.base :: s.recs) := by
                  rintro T (rfl | h)
                  · exact HC.out
                  · exact HQ.out T h
                clear p1 e1 bk slk hcb hcb2 cb2 c12 s0 s1 s2 hSl HQ HC
                go_wp2_with fail
                refine (play_open dm (by omega)).mono ?_
                rintro e wn ⟨ln, bsn, rn, rfl, hTn, lno, kn⟩
                have HT2 : Hid (∃ s ∈ M, bsn :: rn = s.base :: s.recs) := HT.out _ hTn
                have pn := pk.did lno (km.trans kn)
                clear lno dm km kn hTn HT pk
                obtain ⟨F1n, F2n, F3n⟩ := pn.lw.few hn64
                go_wp2_with fail
                refine (seen_any pn.lw).mono ?_
                rintro e ws ⟨v, rfl, rs, bs5⟩
                obtain ⟨av, cv, hav⟩ := rs.len
                subst hav
                have ps := pn.belowN bs5
                have ba4 := below_alloc1 ws (.cells #[.string bsn, .slice av rn.length cv] 35)
                have p4 := ps.belowN ba4
                have r4 : Row (ws.alloc (.cells #[.string bsn, .slice av rn.length cv] 35)) w2.heap.size (.slice av rn.length cv) rn := (rs.kept (fun k e => ba4.block k (rs.blk e).2)).mono pn.lw.bel.size
                have ew4 := heap_alloc_new ws (.cells #[.string bsn, .slice av rn.length cv] 35)
                have hY4 : ∀ k, (Value.slice av rn.length cv).ownBlock = some k → (wn.heap.size ≤ k ∧ k < ws.heap.size) := fun k e => rs.blk e
                have hwb : ws.heap.size < (ws.alloc (.cells #[.string bsn, .slice av rn.length cv] 35)).heap.size := by simp
                have p4' := p4.less (Z := fun k => wn.heap.size ≤ k ∧ k < ws.heap.size) (fun k e => Or.inl (Or.inr e))
                clear p4 ps pn bs5 ba4
                go_wp2_with fail
                obtain ⟨wb, hwbe⟩ : ∃ wb, ws.heap.size = wb := ⟨_, rfl⟩
                generalize ws.alloc (.cells #[.string bsn, .slice av rn.length cv] 35) = W4 at p4' r4 ew4 hwb ⊢
                rw [hwbe] at ew4 hwb p4' hY4 ⊢
                clear rs hwbe
                go_loopw [23, 24] (fun sf sk V => ∃ (k : Nat) (f : Bool), k ≤ M.length ∧ sf = .bool f ∧ sk = .int .i64 (k : Int) ∧ FndB f M k (bsn :: rn) ∧ Below W4.heap.size W4 V) (fun _ sk _ => M.length - (intOf sk).toNat)
                case atStart => exact ⟨0, false, Nat.zero_le _, rfl, rfl, FndB.start, Below.refl _ _⟩
                case round =>
                  obtain ⟨k, f, hk, rfl, rfl, HK, hV⟩ := hrel
                  have pV := p4'.below hV
                  have eV := (hV.block wb hwb).trans ew4
                  have rV := r4.kept (fun k e => hV.block k (r4.blk e).2)
                  have v0 : wr.cell? ⟨wb, 0, none⟩ = some (.string bsn) := by simp [World.cell?, eV]
                  have v1 : wr.cell? ⟨wb, 1, none⟩ = some (.slice av rn.length cv) := by simp [World.cell?, eV]
                  by_cases hkl : k < M.length
                  · have hkl2 : (k : Int) < (M.length : Int) := by omega
                    have hs : M[k]? = some M[k] := by simp [hkl]
                    generalize M[k] = s at hs
                    obtain ⟨sb, sc, es, hsc, q0, q1⟩ := pV.nw.sts.cell hs
                    injection es with t1 t2 t3
                    subst t1 t3
                    have hsc2 : (M.length : Int) ≤ (c2 : Int) := by omega
                    have rS := pV.nw.sts.each s (List.mem_of_getElem? hs)
                    obtain ⟨bS, vS, rSs⟩ := s
                    obtain ⟨aS, cS, hvS⟩ := rS.len
                    dsimp only at hvS q0 q1 rS
                    subst hvS
                    cases f with
                    | false =>
                      have cSa := fun U (h : Below wr.heap.size wr U) => refSame_any (b1 := bS) (b2 := bsn) (rS.kept (fun k e => h.block k (rS.blk e).2)) (rV.kept (fun k e => h.block k (rV.blk e).2)) (by omega)
                      obtain ⟨D, hD⟩ : ∃ D, D = decide (bS = bsn ∧ rSs = rn) := ⟨_, rfl⟩
                      rw [← hD] at cSa
                      have HK2 : FndB D M (k + 1) (bsn :: rn) := by
                        unfold FndB
                        rw [hD, decide_eq_true_eq]
                        constructor
                        · rintro ⟨rfl, rfl⟩
                          exact ⟨k, _, by omega, hs, rfl⟩
                        · rintro ⟨j, s', hj, hjs, e⟩
                          by_cases hjk : j < k
                          · exact absurd (HK.2 ⟨j, s', hjk, hjs, e⟩) (by decide)
                          · obtain rfl : j = k := by omega
                            rw [hs] at hjs
                            cases hjs
                            injection e with e1 e2
                            exact ⟨e1.symm, e2.symm⟩
                      have hbD := below_drew wr
                      have kS9 : ∀ U, Below wr.heap.size wr U → U.cell? ⟨sb, k * 2, none⟩ = some (.string bS) ∧ U.cell? ⟨sb, k * 2 + 1, none⟩ = some (.slice aS rSs.length cS) ∧ U.cell? ⟨wb, 0, none⟩ = some (.string bsn) ∧ U.cell? ⟨wb, 1, none⟩ = some (.slice av rn.length cv) := fun U h => ⟨(h.cell (p := ⟨sb, k * 2, none⟩) (World.block_lt_of_cell? wr _ q0)).trans q0, (h.cell (p := ⟨sb, k * 2 + 1, none⟩) (World.block_lt_of_cell? wr _ q1)).trans q1, (h.cell (p := ⟨wb, 0, none⟩) (World.block_lt_of_cell? wr _ v0)).trans v0, (h.cell (p := ⟨wb, 1, none⟩) (World.block_lt_of_cell? wr _ v1)).trans v1⟩
                      clear hD hs HK
                      go_wp2_with fail
                      have hB := hbD
                      go_region_held3 (fun U => U.cell? ⟨sb, k * 2, none⟩ = some (.string bS) ∧ U.cell? ⟨sb, k * 2 + 1, none⟩ = some (.slice aS rSs.length cS) ∧ U.cell? ⟨wb, 0, none⟩ = some (.string bsn) ∧ U.cell? ⟨wb, 1, none⟩ = some (.slice av rn.length cv))
                        (exact kS9 _ hB)
                        (first | (go_at_call 22; refine (cSa _ hB).mono ?_; rintro e wB ⟨rfl, bB⟩; have hB := below2 hB bB))
                      all_goals go_wp2_with fail
                      all_goals go_roundw
                      case rel => exact ⟨k + 1, D, by omega, rfl, by go_num, HK2, below2 hV hB⟩
                      case measure => simp [intOf]; omega
                    | true =>
                      have HK2 : FndB true M (k + 1) (bsn :: rn) := HK.more
                      clear HK hs
                      go_wp2_with fail
                      go_quiet (fail)
                      go_wp2_with fail
                      go_roundw
                      case rel => exact ⟨k + 1, true, by omega, rfl, by go_num, HK2, below2 hV (belowDrewN _ _)⟩
                      case measure => simp [intOf]; omega
                  · have hkl2 : ¬ (k : Int) < (M.length : Int) := by omega
                    obtain rfl : f = true := by
                      obtain ⟨s, hs, e⟩ := HT2.out
                      obtain ⟨j, hj⟩ := List.mem_iff_getElem?.1 hs
                      have := (List.getElem?_eq_some_iff.1 hj).1
                      exact HK.2 ⟨j, s, by omega, hj, e⟩
                    obtain ⟨y0, y1, z0, z1⟩ := pV.nw.cells
                    have p5 := pV.put bsn (.slice av rn.length cv) rn rV (fun k e => Or.inr (hY4 k e))
                    obtain ⟨y50, y51, _, _⟩ := p5.nw.cells
                    have p6 := p5.one
                    rw [show ((wr.setCell ⟨nb, 0, none⟩ (.string bsn)).setCell ⟨nb, 1, none⟩ (.slice av rn.length cv)).heap.size = wr.heap.size by simp] at p6
                    clear HK hV p4' pV r4 ew4 eV
                    go_wp2_with fail
                    generalize ((wr.setCell ⟨nb, 0, none⟩ (.string bsn)).setCell ⟨nb, 1, none⟩ (.slice av rn.length cv)).alloc (.cells #[.string bsn, .slice av rn.length cv] 35) = w6 at p6 ⊢
                    clear y0 y1 z0 z1 y50 y51 v0 v1 p5 rV
                    have hbD := below_drew w6
                    have kS9 : ∀ U, Below w6.heap.size w6 U → U.cell? ⟨nb, 0, none⟩ = some (.string bsn) ∧ U.cell? ⟨nb, 1, none⟩ = some (.slice av rn.length cv) := fun U h => ⟨(p6.below h).nw.cells.1, (p6.below h).nw.cells.2.1⟩
                    obtain ⟨F1, F2, F3⟩ := p6.lw.few hn64
                    have hroom9 := p6.lw.room
                    have cSe := fun U (h : Below w6.heap.size w6 U) => seen_any (p6.below h).lw
                    have cSa := fun U v B (h : Below w6.heap.size w6 U) (r : Row U B v rn) => refSame_true (b1 := bsn) r (p6.below h).nw.nrow (by omega)
                    have cRo := fun U (h : Below w6.heap.size w6 U) => play_room (p6.below h).lw
                    have cRr := fun U (h : Below w6.heap.size w6 U) => refRoom_any n hn8 (by omega) bsn F1 _ _ rn U (p6.below h).nw.nrow (by omega) F3
                    have hrr : ((areaN n - secsL (bsn :: rn) : Nat) : Int) = (areaN n : Int) - (secsL (bsn :: rn) : Int) := by omega
                    rw [hrr] at cRo
                    clear hrr hroom9
                    generalize (areaN n : Int) - (secsL (bsn :: rn) : Int) = rr at cRo cRr
                    apply wp_joinV (R := fun U => Below w6.heap.size w6 U)
                    case h =>
                      have hB := hbD
                      go_region_held3 (fun U => U.cell? ⟨nb, 0, none⟩ = some (.string bsn) ∧ U.cell? ⟨nb, 1, none⟩ = some (.slice av rn.length cv))
                        (exact kS9 _ hB)
                        (first
                          | (go_at_call 21; refine (cSe _ hB).mono ?_; rintro e wA ⟨v, rfl, rA, bA⟩; have hB := below2 hB bA)
                          | (go_at_call 22; refine (cSa _ _ _ hB rA).mono ?_; rintro e wB ⟨rfl, bB⟩; have hB := below2 hB bB)
                          | (go_at_call 23; refine (cRo _ hB).mono ?_; rintro e wC ⟨rfl, bC⟩; have hB := below2 hB bC)
                          | (go_at_call 13; refine (cRr _ hB).mono ?_; rintro e wC ⟨rfl, bC⟩; have hB := below2 hB bC))
                      all_goals exact JoinV.mk v rfl hB
                    intro v9 V9 hB9
                    clear cSe cSa cRo cRr kS9
                    go_wp2_with fail
                    go_roundw
                    case rel => exact ⟨i + 1, ln, (b + 1), cv, 1, av, _, bsn, rn, [⟨bsn, .slice av rn.length cv, rn⟩], _, by omega, rfl, rfl, by go_num, by omega, by simp, (fun _ (h : False) => h.elim), ⟨_, List.mem_cons_self .., rfl⟩, (p6.below hB9).less (Z := fun _ => False) (fun _ x => False.elim x)⟩
                    case measure => simp [intOf]; omega
            · by_cases k4 : kind = 4
              · as_aux_lemma =>
                  have g4 : (kind == 4) = true := by simpa using k4
                  have g43 : (kind == 3) = false := by rw [beq_eq_false_iff_ne]; omega
                  clear k4
                  have dm := p1.lw.dev
                  have pk := p1
                  have km : Kept (fun k => footS nb (.slice an recs.length cn) (.slice a2 M.length c2) M k ∨ k = wr.heap.size) (wr.alloc (.cells #[.int .i64 kind, .string text, .slice ka KL.length kc] 40)) (wr.alloc (.cells #[.int .i64 kind, .string text, .slice ka KL.length kc] 40)) := ⟨Nat.le_refl _, fun _ _ => rfl⟩
                  have HT : Hid (∀ T, T = bs :: recs → ∃ s ∈ M, T = s.base :: s.recs) := by
                    rintro T rfl
                    exact HC.out
                  clear p1 e1 hSl HQ HC
                  go_wp2_with fail
                  clear s0 s1 s2
                  refine (play_open dm (by omega)).mono ?_
                  rintro e wn ⟨ln, bsn, rn, rfl, hTn, lno, kn⟩
                  have HT2 : Hid (∃ s ∈ M, bsn :: rn = s.base :: s.recs) := HT.out _ hTn
                  have pn := pk.did lno (km.trans kn)
                  clear lno dm km kn hTn HT pk
                  obtain ⟨F1n, F2n, F3n⟩ := pn.lw.few hn64
                  go_wp2_with fail
                  refine (seen_any pn.lw).mono ?_
                  rintro e ws ⟨v, rfl, rs, bs5⟩
                  obtain ⟨av, cv, hav⟩ := rs.len
                  subst hav
                  have ps := pn.belowN bs5
                  have ba4 := below_alloc1 ws (.cells #[.string bsn, .slice av rn.length cv] 35)
                  have p4 := ps.belowN ba4
                  have r4 : Row (ws.alloc (.cells #[.string bsn, .slice av rn.length cv] 35)) w2.heap.size (.slice av rn.length cv) rn := (rs.kept (fun k e => ba4.block k (rs.blk e).2)).mono pn.lw.bel.size
                  have ew4 := heap_alloc_new ws (.cells #[.string bsn, .slice av rn.length cv] 35)
                  have hY4 : ∀ k, (Value.slice av rn.length cv).ownBlock = some k → (wn.heap.size ≤ k ∧ k < ws.heap.size) := fun k e => rs.blk e
                  have hwb : ws.heap.size < (ws.alloc (.cells #[.string bsn, .slice av rn.length cv] 35)).heap.size := by simp
                  have p4' := p4.less (Z := fun k => wn.heap.size ≤ k ∧ k < ws.heap.size) (fun k e => Or.inl (Or.inr e))
                  clear p4 ps pn bs5 ba4
                  go_wp2_with fail
                  obtain ⟨wb, hwbe⟩ : ∃ wb, ws.heap.size = wb := ⟨_, rfl⟩
                  generalize ws.alloc (.cells #[.string bsn, .slice av rn.length cv] 35) = W4 at p4' r4 ew4 hwb ⊢
                  rw [hwbe] at ew4 hwb p4' hY4 ⊢
                  clear rs hwbe
                  go_loopw [23, 24] (fun sf sk V => ∃ (k : Nat) (f : Bool), k ≤ M.length ∧ sf = .bool f ∧ sk = .int .i64 (k : Int) ∧ FndB f M k (bsn :: rn) ∧ Below W4.heap.size W4 V) (fun _ sk _ => M.length - (intOf sk).toNat)
                  case atStart => exact ⟨0, false, Nat.zero_le _, rfl, rfl, FndB.start, Below.refl _ _⟩
                  case round =>
                    obtain ⟨k, f, hk, rfl, rfl, HK, hV⟩ := hrel
                    have pV := p4'.below hV
                    have eV := (hV.block wb hwb).trans ew4
                    have rV := r4.kept (fun k e => hV.block k (r4.blk e).2)
                    have v0 : wr.cell? ⟨wb, 0, none⟩ = some (.string bsn) := by simp [World.cell?, eV]
                    have v1 : wr.cell? ⟨wb, 1, none⟩ = some (.slice av rn.length cv) := by simp [World.cell?, eV]
                    by_cases hkl : k < M.length
                    · have hkl2 : (k : Int) < (M.length : Int) := by omega
                      have hs : M[k]? = some M[k] := by simp [hkl]
                      generalize M[k] = s at hs
                      obtain ⟨sb, sc, es, hsc, q0, q1⟩ := pV.nw.sts.cell hs
                      injection es with t1 t2 t3
                      subst t1 t3
                      have hsc2 : (M.length : Int) ≤ (c2 : Int) := by omega
                      have rS := pV.nw.sts.each s (List.mem_of_getElem? hs)
                      obtain ⟨bS, vS, rSs⟩ := s
                      obtain ⟨aS, cS, hvS⟩ := rS.len
                      dsimp only at hvS q0 q1 rS
                      subst hvS
                      cases f with
                      | false =>
                        have cSa := fun U (h : Below wr.heap.size wr U) => refSame_any (b1 := bS) (b2 := bsn) (rS.kept (fun k e => h.block k (rS.blk e).2)) (rV.kept (fun k e => h.block k (rV.blk e).2)) (by omega)
                        obtain ⟨D, hD⟩ : ∃ D, D = decide (bS = bsn ∧ rSs = rn) := ⟨_, rfl⟩
                        rw [← hD] at cSa
                        have HK2 : FndB D M (k + 1) (bsn :: rn) := by
                          unfold FndB
                          rw [hD, decide_eq_true_eq]
                          constructor
                          · rintro ⟨rfl, rfl⟩
                            exact ⟨k, _, by omega, hs, rfl⟩
                          · rintro ⟨j, s', hj, hjs, e⟩
                            by_cases hjk : j < k
                            · exact absurd (HK.2 ⟨j, s', hjk, hjs, e⟩) (by decide)
                            · obtain rfl : j = k := by omega
                              rw [hs] at hjs
                              cases hjs
                              injection e with e1 e2
                              exact ⟨e1.symm, e2.symm⟩
                        have hbD := below_drew wr
                        have kS9 : ∀ U, Below wr.heap.size wr U → U.cell? ⟨sb, k * 2, none⟩ = some (.string bS) ∧ U.cell? ⟨sb, k * 2 + 1, none⟩ = some (.slice aS rSs.length cS) ∧ U.cell? ⟨wb, 0, none⟩ = some (.string bsn) ∧ U.cell? ⟨wb, 1, none⟩ = some (.slice av rn.length cv) := fun U h => ⟨(h.cell (p := ⟨sb, k * 2, none⟩) (World.block_lt_of_cell? wr _ q0)).trans q0, (h.cell (p := ⟨sb, k * 2 + 1, none⟩) (World.block_lt_of_cell? wr _ q1)).trans q1, (h.cell (p := ⟨wb, 0, none⟩) (World.block_lt_of_cell? wr _ v0)).trans v0, (h.cell (p := ⟨wb, 1, none⟩) (World.block_lt_of_cell? wr _ v1)).trans v1⟩
                        clear hD hs HK
                        go_wp2_with fail
                        have hB := hbD
                        go_region_held3 (fun U => U.cell? ⟨sb, k * 2, none⟩ = some (.string bS) ∧ U.cell? ⟨sb, k * 2 + 1, none⟩ = some (.slice aS rSs.length cS) ∧ U.cell? ⟨wb, 0, none⟩ = some (.string bsn) ∧ U.cell? ⟨wb, 1, none⟩ = some (.slice av rn.length cv))
                          (exact kS9 _ hB)
                          (first | (go_at_call 22; refine (cSa _ hB).mono ?_; rintro e wB ⟨rfl, bB⟩; have hB := below2 hB bB))
                        all_goals go_wp2_with fail
                        all_goals go_roundw
                        case rel => exact ⟨k + 1, D, by omega, rfl, by go_num, HK2, below2 hV hB⟩
                        case measure => simp [intOf]; omega
                      | true =>
                        have HK2 : FndB true M (k + 1) (bsn :: rn) := HK.more
                        clear HK hs
                        go_wp2_with fail
                        go_quiet (fail)
                        go_wp2_with fail
                        go_roundw
                        case rel => exact ⟨k + 1, true, by omega, rfl, by go_num, HK2, below2 hV (belowDrewN _ _)⟩
                        case measure => simp [intOf]; omega
                    · have hkl2 : ¬ (k : Int) < (M.length : Int) := by omega
                      obtain rfl : f = true := by
                        obtain ⟨s, hs, e⟩ := HT2.out
                        obtain ⟨j, hj⟩ := List.mem_iff_getElem?.1 hs
                        have := (List.getElem?_eq_some_iff.1 hj).1
                        exact HK.2 ⟨j, s, by omega, hj, e⟩
                      obtain ⟨y0, y1, z0, z1⟩ := pV.nw.cells
                      have p5 := pV.put bsn (.slice av rn.length cv) rn rV (fun k e => Or.inr (hY4 k e))
                      obtain ⟨y50, y51, _, _⟩ := p5.nw.cells
                      have p6 := p5.one
                      rw [show ((wr.setCell ⟨nb, 0, none⟩ (.string bsn)).setCell ⟨nb, 1, none⟩ (.slice av rn.length cv)).heap.size = wr.heap.size by simp] at p6
                      clear HK hV p4' pV r4 ew4 eV
                      go_wp2_with fail
                      generalize ((wr.setCell ⟨nb, 0, none⟩ (.string bsn)).setCell ⟨nb, 1, none⟩ (.slice av rn.length cv)).alloc (.cells #[.string bsn, .slice av rn.length cv] 35) = w6 at p6 ⊢
                      clear y0 y1 z0 z1 y50 y51 v0 v1 p5 rV
                      have hbD := below_drew w6
                      have kS9 : ∀ U, Below w6.heap.size w6 U → U.cell? ⟨nb, 0, none⟩ = some (.string bsn) ∧ U.cell? ⟨nb, 1, none⟩ = some (.slice av rn.length cv) := fun U h => ⟨(p6.below h).nw.cells.1, (p6.below h).nw.cells.2.1⟩
                      obtain ⟨F1, F2, F3⟩ := p6.lw.few hn64
                      have hroom9 := p6.lw.room
                      have cSe := fun U (h : Below w6.heap.size w6 U) => seen_any (p6.below h).lw
                      have cSa := fun U v B (h : Below w6.heap.size w6 U) (r : Row U B v rn) => refSame_true (b1 := bsn) r (p6.below h).nw.nrow (by omega)
                      have cRo := fun U (h : Below w6.heap.size w6 U) => play_room (p6.below h).lw
                      have cRr := fun U (h : Below w6.heap.size w6 U) => refRoom_any n hn8 (by omega) bsn F1 _ _ rn U (p6.below h).nw.nrow (by omega) F3
                      have hrr : ((areaN n - secsL (bsn :: rn) : Nat) : Int) = (areaN n : Int) - (secsL (bsn :: rn) : Int) := by omega
                      rw [hrr] at cRo
                      clear hrr hroom9
                      generalize (areaN n : Int) - (secsL (bsn :: rn) : Int) = rr at cRo cRr
                      apply wp_joinV (R := fun U => Below w6.heap.size w6 U)
                      case h =>
                        have hB := hbD
                        go_region_held3 (fun U => U.cell? ⟨nb, 0, none⟩ = some (.string bsn) ∧ U.cell? ⟨nb, 1, none⟩ = some (.slice av rn.length cv))
                          (exact kS9 _ hB)
                          (first
                            | (go_at_call 21; refine (cSe _ hB).mono ?_; rintro e wA ⟨v, rfl, rA, bA⟩; have hB := below2 hB bA)
                            | (go_at_call 22; refine (cSa _ _ _ hB rA).mono ?_; rintro e wB ⟨rfl, bB⟩; have hB := below2 hB bB)
                            | (go_at_call 23; refine (cRo _ hB).mono ?_; rintro e wC ⟨rfl, bC⟩; have hB := below2 hB bC)
                            | (go_at_call 13; refine (cRr _ hB).mono ?_; rintro e wC ⟨rfl, bC⟩; have hB := below2 hB bC))
                        all_goals exact JoinV.mk v rfl hB
                      intro v9 V9 hB9
                      clear cSe cSa cRo cRr kS9
                      go_wp2_with fail
                      go_roundw
                      case rel => exact ⟨i + 1, ln, (b + 1), cv, 1, av, _, bsn, rn, [⟨bsn, .slice av rn.length cv, rn⟩], _, by omega, rfl, rfl, by go_num, by omega, by simp, (fun _ (h : False) => h.elim), ⟨_, List.mem_cons_self .., rfl⟩, (p6.below hB9).less (Z := fun _ => False) (fun _ x => False.elim x)⟩
                      case measure => simp [intOf]; omega
              · have g3 : (kind == 3) = false := by rw [beq_eq_false_iff_ne]; exact k3
                have g4 : (kind == 4) = false := by rw [beq_eq_false_iff_ne]; exact k4
                clear k3 k4
                go_wp2_with fail
                generalize wr.alloc (.cells #[.int .i64 kind, .string text, .slice ka KL.length kc] 40) = W1 at p1 ⊢
                clear s0 s1 s2 e1 hSl
                have hbD := below_drew W1
                have kS9 : ∀ U, Below W1.heap.size W1 U → U.cell? ⟨nb, 0, none⟩ = some (.string bs) ∧ U.cell? ⟨nb, 1, none⟩ = some (.slice an recs.length cn) := fun U h => ⟨(p1.below h).nw.cells.1, (p1.below h).nw.cells.2.1⟩
                obtain ⟨F1, F2, F3⟩ := p1.lw.few hn64
                have hroom9 := p1.lw.room
                have cSe := fun U (h : Below W1.heap.size W1 U) => seen_any (p1.below h).lw
                have cSa := fun U v B (h : Below W1.heap.size W1 U) (r : Row U B v recs) => refSame_true (b1 := bs) r (p1.below h).nw.nrow (by omega)
                have cRo := fun U (h : Below W1.heap.size W1 U) => play_room (p1.below h).lw
                have cRr := fun U (h : Below W1.heap.size W1 U) => refRoom_any n hn8 (by omega) bs F1 _ _ recs U (p1.below h).nw.nrow (by omega) F3
                have hrr : ((areaN n - secsL (bs :: recs) : Nat) : Int) = (areaN n : Int) - (secsL (bs :: recs) : Int) := by omega
                rw [hrr] at cRo
                clear hrr hroom9
                generalize (areaN n : Int) - (secsL (bs :: recs) : Int) = rr at cRo cRr
                apply wp_joinV (R := fun U => Below W1.heap.size W1 U)
                case h =>
                  have hB := hbD
                  go_region_held3 (fun U => U.cell? ⟨nb, 0, none⟩ = some (.string bs) ∧ U.cell? ⟨nb, 1, none⟩ = some (.slice an recs.length cn))
                    (exact kS9 _ hB)
                    (first
                      | (go_at_call 21; refine (cSe _ hB).mono ?_; rintro e wA ⟨v, rfl, rA, bA⟩; have hB := below2 hB bA)
                      | (go_at_call 22; refine (cSa _ _ _ hB rA).mono ?_; rintro e wB ⟨rfl, bB⟩; have hB := below2 hB bB)
                      | (go_at_call 23; refine (cRo _ hB).mono ?_; rintro e wC ⟨rfl, bC⟩; have hB := below2 hB bC)
                      | (go_at_call 13; refine (cRr _ hB).mono ?_; rintro e wC ⟨rfl, bC⟩; have hB := below2 hB bC))
                  all_goals exact JoinV.mk v rfl hB
                intro v9 V9 hB9
                clear cSe cSa cRo cRr kS9
                go_wp2_with fail
                go_roundw
                case rel => exact ⟨i + 1, lb, b, cn, c2, an, a2, bs, recs, M, _, by omega, rfl, rfl, by go_num, by omega, by omega, HQ, HC, (p1.below hB9).less (Z := fun _ => False) (fun _ x => False.elim x)⟩
                case measure => simp [intOf]; omega
    · have hend : ¬ (i : Int) < (L.length : Int) := by omega
      go_wp2_with fail
      refine (wakes_any _).mono ?_
      rintro e w6 ⟨rfl, b6⟩
      go_wp2_with fail
      go_ret
      exact ⟨rfl, below2 (below2 b2 p.lw.bel) b6⟩
end

set_option maxRecDepth 100000 in
theorem logPlays_any {H : Type} {enc : TypeId × Value → H} {bs : Nat} {d : DataW H} {pl : List MemPlace} (sx : Int) (base : ByteArray) (v : Value) (w : World) (hx : -9223372036854775808 ≤ sx ∧ sx ≤ 9223372036854775807) (_hb : base.size ≤ maxLen) (hv : Value.okWide Try.prog w .any bs 22 v) (h : DataW.Trod enc Try.prog w 0 (fun _ => true) true 22 v d pl) :
    Calls Try.prog 3 #[.int .i64 sx, .string base, v] w fun e w' => e = .returned (.bool true) ∧ Below w.heap.size w w' := by
  obtain ⟨a0, L, c0, rfl, r1, r2, r3, r4⟩ := open_steps hv h
  obtain ⟨n, hn, cM⟩ := modR_any sx 65 hx.1 hx.2 (by omega) (by omega)
  by_cases h1 : 20000 < base.size
  · exact plays_long sx n base a0 L c0 w cM h1
  by_cases hf : fairL L
  · have cF := fair_any a0 L c0 w r1 r2 r3 true ⟨fun _ => hf, fun _ => rfl⟩
    by_cases h0 : n = 0
    · subst h0
      exact plays_zero sx base a0 L c0 w cM (by omega) cF
    by_cases h8 : n < 8
    · exact plays_small sx n base a0 L c0 w cM (by omega) cF (by omega) h8
    by_cases hr : secs base ≤ areaN n
    · exact plays_good sx n base a0 L c0 w cM (by omega) hf cF (by omega) (by omega) hr r1 r4 r2
    · exact plays_full sx n base a0 L c0 w cM (by omega) cF (by omega) (by omega) (by omega)
  · have cF := fair_any a0 L c0 w r1 r2 r3 false ⟨(fun h => by cases h), fun h => absurd h hf⟩
    exact plays_unfair sx n base a0 L c0 w cM (by omega) cF

end Go.Proofs.Ytlapgalefpenbaa
end

section
namespace Go.Proofs.Ytlapgalefpenbaa.logPlays
open Go.ChangeShapes Go.WideShapes Go.ChangeAt Go.RowKit
open Go.ChangeMaps (open_string shut_string)

theorem own : ownKnob Try.prog.godebug = none := by kernel_rfl
theorem laidOut : laidOutB Try.prog = true := by kernel_rfl

set_option maxRecDepth 100000 in
theorem lifted (os : Os) (started : os.Started) (H : Type) (enc : TypeId × Value → H) :
    ReturnsInHanded {} Try.checked os 3 .any (Rows.logPlaysSpec.pre6 enc Try.prog Try.f3 Rows.logPlaysRow.domain false) (Rows.logPlaysSpec.post enc Try.prog Try.f3 false true false false) := by
  refine returnsInHanded_of_change (C := Try.checked) own started (by kernel_rfl) Try.func3
    (ChangeSpec.witness6 (enc := enc) (C := Try.checked) false ⟨#[], #[.int .i64 0, .string ByteArray.empty, .slice none 0 0], []⟩ 8 (by kernel_rfl) (by kernel_rfl) (by kernel_rfl) (by kernel_rfl)) ?_
  intro W base args ds gs before hval0 hW hcnd _
  have hval : ∀ (j : Nat) t v, Try.f3.params[j]? = some t → args[j]? = some v → Value.okWide Try.prog W .any base t v := hval0
  have hW' := hW
  obtain ⟨p, q, hA0, hV, rfl, hfz, hnd⟩ := hW
  have hA : DataW.TrodAll enc Try.prog W 0 (fun _ => true) true Try.f3.params.toList args.toList ds p := hA0
  rw [Try.params3] at hA hval
  obtain ⟨v0, vs0, d0, ds0, p0, q0, hargs, rfl, rfl, h0, r0⟩ := trodAll_cons hA
  obtain ⟨v1, vs1, d1, ds1, p1, q1, rfl, rfl, rfl, h1, r1⟩ := trodAll_cons r0
  obtain ⟨v2, vs2, d2, ds2, p2, q2, rfl, rfl, rfl, h2, r2⟩ := trodAll_cons r1
  obtain ⟨rfl, rfl, rfl⟩ := trodAll_nil r2
  obtain rfl : args = #[v0, v1, v2] := by cases args; simp_all
  obtain ⟨rfl, rfl⟩ := trodVars_none hV
  obtain ⟨a0, rfl, rfl, rfl, w0⟩ := open_int Try.underlying3 (hval 0 3 v0 rfl rfl) h0
  obtain ⟨a1, rfl, rfl, rfl, w1⟩ := open_string Try.underlying9 (hval 1 9 v1 rfl rfl) h1
  have k2 := h2
  have lt2 : ∀ x ∈ p2, x.block < W.heap.size := by obtain ⟨m, hm⟩ := k2; exact DataW.trod_lt m _ _ _ hm
  clear hA0 hval0
  refine (logPlays_any a0 a1 v2 W (bounds_i64 w0) w1 (hval 2 22 v2 rfl rfl) h2).mono fun e W' ⟨he, bel⟩ => ?_
  subst he
  exact ⟨_, rfl, _, _, _, [], _, [], hW', trodAll_mk1 (shut_bool Try.underlying4 _), (trodAll_cons_mk (shut_int Try.underlying3 w0) (trodAll_cons_mk (shut_string Try.underlying9 w1) (trodAll_cons_mk (Below.trod laidOut (by kernel_rfl) (of_decide_eq_true (by kernel_rfl)) k2 bel lt2) trodAll_mk0))), rfl, bel.frame _, fun h => by cases h⟩

theorem over : Rows.logPlaysRow.holds Try.pinned (OpenSpec.ofChange Rows.logPlaysSpec) :=
  OpenClaim.holds_of_wide 3 Try.f3 rfl rfl rfl rfl rfl rfl rfl ⟨rfl, rfl, rfl, rfl, rfl⟩ rfl rfl rfl rfl rfl (by kernel_rfl) Try.func3 (by kernel_rfl)
    (of_decide_eq_true (by kernel_rfl)) (by unfold Func.isWrapper; first | (rw [if_pos (by decide +kernel)]; kernel_rfl) | (rw [if_neg (by decide +kernel)]; exact ⟨rfl, rfl⟩))
    (fun os started H enc _ => lifted os started H enc)

end Go.Proofs.Ytlapgalefpenbaa.logPlays
namespace Go.Proofs.Ytlapgalefpenbaa
theorem logPlays_holds : Rows.LogPlaysSaid := logPlays.over
#print axioms logPlays_holds
end Go.Proofs.Ytlapgalefpenbaa
end

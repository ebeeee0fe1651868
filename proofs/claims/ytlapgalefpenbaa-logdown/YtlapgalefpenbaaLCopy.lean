/- The copy of a list of numbers; two lists of texts that are alike. -/
import Derived.Test.YtlapgalefpenbaaLWakes
import Derived.Laws.AppendOwnNone
namespace Go.Proofs.Ytlapgalefpenbaa
open Go.RowKit

theorem Try.info3 : (Try.prog.info? 3).map (fun i => (i.zero, i.size, i.bytes)) = some (some (.int .i64 0), 1, 8) := by kernel_rfl

def intC (L : List Int) : List Value := L.map (Value.int .i64)

theorem intC_src {w : World} {ad : Addr} {L : List Int} (h : SlI w (some ad) L) (o : Obj) : ∀ j u, (intC L)[j]? = some u → (w.alloc o).cell? (ad.add j) = some u := by
  intro j u hu
  rcases h with rfl | ⟨b, off, e, hlt, hr⟩
  · simp [intC] at hu
  · cases e
    simp only [intC, List.getElem?_map, Option.map_eq_some_iff] at hu
    obtain ⟨x, hx, rfl⟩ := hu
    rw [Addr.add_lit]
    exact ((below_alloc1 w o).cell (p := ⟨b, off + j, none⟩) hlt).trans (hr j x hx)

/-- append of a list of numbers to an empty one. -/
theorem wpList_copy_ints {ops : Array Oper} {rest : List Oper} {o : Oper} {act : Act} {Q : Exit → Act → World → Prop} (hgd : o.guard = none) (s x : Operand)
    (ho : o.op = .call { callee := .builtin .append, args := #[s, x], argTypes := #[38, 38] })
    (w : World) (H : Nat) (hH : H = w.heap.size) (hs : act.eval s = .slice (some ⟨H, 0, none⟩) 0 0) (ka : Option Addr) (L : List Int) (kc : Nat) (hx : act.eval x = .slice ka L.length kc) (hsl : SlI w ka L) (hnil : ka = none → kc = 0) (hlen : L.length ≤ kc) (hl : L.length ≤ 1000000)
    (h : ∀ b c w8, Below w.heap.size w w8 → w.heap.size ≤ b → b < w8.heap.size → SlI w8 (some ⟨b, 0, none⟩) L → wpList Try.prog ops Q rest (act.put o.dst (.slice (some ⟨b, 0, none⟩) L.length c)) w8) :
    wpList Try.prog ops Q (o :: rest) act (w.alloc (.cells #[] 3)) := by
  subst hH
  obtain ⟨i0, hi, hz0, hz1, hz2⟩ := info_parts Try.info3
  have hmade : (w.alloc (.cells #[] 3)).ownsRow w.heap.size 3 1 (.slice (some ⟨w.heap.size, 0, none⟩) 0 0) 0 [] := World.ownsRow_made w #[] 0 (Nat.le_refl _) (Nat.zero_le _) rfl
  cases ka with
  | none =>
    have e := hnil rfl
    subst e
    have e : L = [] := List.eq_nil_of_length_eq_zero (by omega)
    subst e
    refine wpList_append_own_none hgd s x 38 ho w.heap.size 3 i0 1 Try.underlying38 hi _ 0 [] hs hmade hx ?_
    exact h w.heap.size 0 _ (below_alloc1 w _) (Nat.le_refl _) (by simp) (Or.inl rfl)
  | some ad =>
    refine wpList_append_own _ hgd s x 38 ho w.heap.size 3 i0 (.int .i64 0) 1 8 Try.underlying38 hi hz0 hz1 hz2 rfl (by decide) _ 0 [] hs hmade ad L.length kc (intC L) hx (by simp [intC]) (intC_src hsl _) (by intro u hu; simp only [intC, List.mem_map] at hu; obtain ⟨y, _, rfl⟩ := hu; rfl) (by unfold maxLen; omega) (by omega) (by simp) ?_
    intro v8 w8 ho8 hg8 hn8
    rw [Nat.zero_add, List.nil_append] at ho8
    have h0 := ho8
    rcases ho8.2 with ⟨e, _⟩ | ⟨b, c, cur, rfl, hb, _⟩
    · have := hn8.1 e
      simp at this
    · refine h b c w8 ((below_alloc1 w _).trans ((Below.refl _ _).grown hg8 (by simp) (fun k hk => by cases hk; exact Nat.le_refl _))) hb (h0.lt b rfl).2 (Or.inr ⟨b, 0, rfl, (h0.lt b rfl).2, ?_⟩)
      intro i y hy
      have hlt : i < L.length := (List.getElem?_eq_some_iff.1 hy).1
      rw [Nat.zero_add, h0.cellAt i (by omega)]
      simp [intC, hy]

theorem SlI.same {w w' : World} {b : Nat} {L : List Int} (h : SlI w (some ⟨b, 0, none⟩) L) (e : w'.heap[b]? = w.heap[b]?) (hlt : b < w'.heap.size) : SlI w' (some ⟨b, 0, none⟩) L := by
  rcases h with h | ⟨b', off, e', _, hr⟩
  · exact Or.inl h
  · cases e'
    exact Or.inr ⟨b, 0, rfl, hlt, fun i x hx => (World.cell?_of_block (a := ⟨b, 0 + i, none⟩) e).trans (hr i x hx)⟩

/-- The first part of a row's value. -/
theorem Row.sl {w : World} {B : Nat} {rv : Value} {L : List ByteArray} (h : Row w B rv L) : (L = [] ∧ ∃ a c, rv = .slice a 0 c) ∨ ∃ b o cap, rv = .slice (some ⟨b, o, none⟩) L.length cap ∧ L.length ≤ cap ∧ ∀ i x, L[i]? = some x → w.cell? ⟨b, o + i, none⟩ = some (.string x) := by
  rcases h with ⟨rfl, rfl⟩ | ⟨b, o, cap, cur, rfl, _, h2, h3, _, _, h6⟩
  · exact Or.inl ⟨rfl, _, _, rfl⟩
  · exact Or.inr ⟨b, o, cap, rfl, h3, fun i x hx => by rw [cell_of_row w b _ cur _ _ h2]; exact h6 i x hx⟩

set_option maxHeartbeats 1600000 in
set_option maxRecDepth 100000 in
theorem textsEq_any {w : World} {A B : Nat} {va vb : Value} {L : List ByteArray} (ra : Row w A va L) (rb : Row w B vb L) (hl : L.length ≤ 1000000) :
    Calls Try.prog 26 #[va, vb] w fun e w' => e = .returned (.bool true) ∧ Below w.heap.size w w' := by
  rcases ra.sl with ⟨rfl, a, c, rfl⟩ | ⟨b1, o1, c1, rfl, hc1, h1⟩
  · obtain ⟨a2, c2, rfl⟩ := rb.len
    rw [List.length_nil]
    go_enter Try.func26, Try.ntmps26
    go_wp2_with fail
    refine wp_loop_rounds 1 ?_
    rw [rounds_succ]
    go_wp2_with fail
    go_ret
    exact ⟨rfl, Below.refl _ _⟩
  · rcases rb.sl with ⟨rfl, a, c, rfl⟩ | ⟨b2, o2, c2, rfl, hc2, h2⟩
    · rw [List.length_nil]
      go_enter Try.func26, Try.ntmps26
      go_wp2_with fail
      refine wp_loop_rounds 1 ?_
      rw [rounds_succ]
      go_wp2_with fail
      go_ret
      exact ⟨rfl, Below.refl _ _⟩
    · clear ra rb
      go_enter Try.func26, Try.ntmps26
      go_wp2_with fail
      go_loopw [5] (fun si wr => ∃ i : Nat, i ≤ L.length ∧ si = .int .i64 (i : Int) ∧ Below w.heap.size w wr) (fun si _ => L.length - (intOf si).toNat)
      case atStart => exact ⟨0, Nat.zero_le _, rfl, Below.refl _ _⟩
      case round =>
        obtain ⟨i, hi, rfl, hb⟩ := hrel
        by_cases hlt : i < L.length
        · have hlt2 : (i : Int) < (L.length : Int) := by omega
          have hx : L[i]? = some L[i] := by simp [hlt]
          generalize L[i] = x at hx
          have k1 := h1 i x hx
          have k2 := h2 i x hx
          have m1 : wr.cell? ⟨b1, o1 + i, none⟩ = some (.string x) := (hb.cell (p := ⟨b1, o1 + i, none⟩) (World.block_lt_of_cell? w _ k1)).trans k1
          have m2 : wr.cell? ⟨b2, o2 + i, none⟩ = some (.string x) := (hb.cell (p := ⟨b2, o2 + i, none⟩) (World.block_lt_of_cell? w _ k2)).trans k2
          clear k1 k2 hx
          go_wp2_with fail
          go_region_held3 (fun V => V.cell? ⟨b1, o1 + i, none⟩ = some (.string x) ∧ V.cell? ⟨b2, o2 + i, none⟩ = some (.string x)) (first | exact ⟨m1, m2⟩ | go_keep) (fail)
          all_goals go_wp2_with fail
          all_goals go_roundw
          case rel => exact ⟨i + 1, by omega, by go_num, hb.drew⟩
          case measure => simp [intOf]; omega
        · obtain rfl : i = L.length := by omega
          go_wp2_with fail
          go_ret
          exact ⟨rfl, hb⟩

end Go.Proofs.Ytlapgalefpenbaa

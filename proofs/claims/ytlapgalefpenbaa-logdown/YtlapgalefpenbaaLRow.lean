/- A record more in a row of texts. -/
import Derived.Test.YtlapgalefpenbaaLMem
import Derived.ArgAppend
import Derived.Deep.Onto
namespace Go.Proofs.Ytlapgalefpenbaa
open Go.RowKit

theorem Try.info9 : (Try.prog.info? 9).map (fun i => (i.zero, i.size, i.bytes)) = some (some (.string ⟨#[]⟩), 1, 16) := by kernel_rfl

theorem Row.of_own {w : World} {B n : Nat} {v : Value} {L : List ByteArray} (h : w.ownsRow B 9 1 v n (L.map Value.string)) : Row w B v L := by
  obtain ⟨h1, h2⟩ := h
  have hn : L.length = n := by simpa using h1
  rcases h2 with ⟨rfl, rfl⟩ | ⟨g, cap, cur, rfl, hg, hh, hc, hm, hs, ht⟩
  · exact Or.inl ⟨rfl, List.eq_nil_of_length_eq_zero hn⟩
  · refine Or.inr ⟨g, 0, cap, cur, by rw [hn], hg, hh, by omega, by omega, hm, fun i x hx => ?_⟩
    have hi : i < n := by rw [← hn]; exact (List.getElem?_eq_some_iff.1 hx).1
    have := congrArg (·[i]?) ht
    simp only [List.getElem?_take, List.getElem?_map, hx] at this
    rw [if_pos (by omega)] at this
    rw [Nat.zero_add, ← Array.getElem?_toList]
    exact this

theorem Fr.of_grown {w w' : World} {row : Option Nat} (h : w.grownBy w' row) : Fr (fun k => row = some k) w w' :=
  ⟨h.os, h.tape, h.output, h.size, fun k hk hF => h.block k hk (fun e => hF e.symm)⟩

theorem run_append_row (w : World) (B : Nat) (ty : TypeId) (rv : Value) (L : List ByteArray) (hrow : Row w B rv L) (a : Nat) (x : ByteArray) (hx : w.cell? ⟨a, 0, none⟩ = some (.string x)) (hlen : L.length ≤ 1000000) (hB : B ≤ w.heap.size) :
    ∃ v' w', (Builtin.append_ #[33, 33] ty #[rv, .slice (some ⟨a, 0, none⟩) 1 1]).run Try.prog w = .ok v' w' ∧ Row w' B v' (L ++ [x]) ∧ Fr (fun k => rv.ownBlock = some k) w w' ∧ (∀ k, v'.ownBlock = some k → rv.ownBlock = some k ∨ w.heap.size ≤ k) ∧ ∃ p q r, v' = .slice p q r := by
  obtain ⟨i0, hi, hz0, hz1, hz2⟩ := info_parts Try.info9
  have hnews : ∀ j u, [Value.string x][j]? = some u → w.cell? ((⟨a, 0, none⟩ : Addr).add j) = some u := by
    intro j u hu
    match j, hu with
    | 0, hu => simp at hu; subst hu; exact hx
  have h1 : ∀ u ∈ [Value.string x], u.oneCell' = true := by intro u hu; simp at hu; subst hu; rfl
  rcases hrow with ⟨rfl, rfl⟩ | ⟨b, o, cap, cur, rfl, hb, hh, hlc, hoc, hm, hg⟩
  · obtain ⟨v', w', hr, ho, hgr, hk⟩ := run_append_own2 (P := Try.prog) w B 33 ty 9 i0 (.string ⟨#[]⟩) 1 16 Try.underlying33 hi hz0 hz1 hz2 rfl (by decide) (.slice none 0 0) 0 [] (World.ownsRow_nil _ _ _ _) ⟨a, 0, none⟩ 1 1 [.string x] rfl hnews h1 (by unfold maxLen; omega) (by omega) hB
    exact ⟨v', w', hr, Row.of_own ho, Fr.of_grown hgr, hk, owns_slice ho⟩
  · by_cases hroom : L.length + 1 ≤ cap
    · have hcell : ∀ j, w.cell? ⟨b, j, none⟩ = cur[j]? := fun j => cell_of_row w b j cur _ _ hh
      have hr := run_append_room_cells (P := Try.prog) w 33 ty 9 i0 Try.underlying33 hi b o L.length cap ⟨a, 0, none⟩ 1 1 [.string x] (by rw [hz1]; rfl) hnews h1 hroom
        (by
          intro j hj
          simp at hj
          subst hj
          rw [hcell, hz1]
          simp
          omega)
        (fun j _ => frozen_of_row w b _ _ _ hh)
      rw [hz1] at hr
      simp only [World.setCells, Nat.mul_one] at hr
      have hfr : Fr (fun k => (Value.slice (some ⟨b, o, none⟩) L.length cap).ownBlock = some k) w (w.setCell ⟨b, o + L.length, none⟩ (.string x)) := Fr.set (F := fun k => (Value.slice (some ⟨b, o, none⟩) L.length cap).ownBlock = some k) (Fr.refl _ w) (p := ⟨b, o + L.length, none⟩) (Or.inl rfl) _
      refine ⟨_, _, hr, Or.inr ⟨b, o, cap, cur.setIfInBounds (o + L.length) (.string x), by simp, hb, heap_setCell_same w b (o + L.length) cur _ (.string x) hh, by simpa using hroom, by simpa using hoc, hm, fun i y hy => ?_⟩, hfr, fun k hk => Or.inl hk, _, _, _, rfl⟩
      rw [Array.getElem?_setIfInBounds]
      by_cases hlt : i < L.length
      · rw [List.getElem?_append_left hlt] at hy
        rw [if_neg (by omega)]
        exact hg i y hy
      · rw [List.getElem?_append_right (by omega)] at hy
        have hi0 : i - L.length = 0 := by
          have := (List.getElem?_eq_some_iff.1 hy).1
          simp at this
          exact this
        rw [hi0] at hy
        simp at hy
        subst hy
        rw [if_pos (by omega), if_pos (by omega)]
    · have hcell : ∀ j, w.cell? ⟨b, j, none⟩ = cur[j]? := fun j => cell_of_row w b j cur _ _ hh
      obtain ⟨v', w', hr, ho, hgr⟩ := run_append_arg_grows (P := Try.prog) w 33 ty 9 i0 (.string ⟨#[]⟩) 1 16 Try.underlying33 hi hz0 hz1 hz2 rfl (by decide) ⟨b, o, none⟩ L.length cap (L.map Value.string) (by simp)
        (by
          intro j u hu
          rw [Addr.add_lit, hcell]
          rw [List.getElem?_map, Option.map_eq_some_iff] at hu
          obtain ⟨y, hy, rfl⟩ := hu
          exact hg j y hy)
        ⟨a, 0, none⟩ 1 1 [.string x] rfl hnews (by omega) (by unfold maxLen; omega) (by omega)
      have ho' : w'.ownsRow w.heap.size 9 1 v' (L.length + 1) ((L ++ [x]).map Value.string) := by rw [List.map_append]; exact ho
      refine ⟨v', w', hr, Row.of_own (World.ownsRow.mono ho' hB), ⟨hgr.os, hgr.tape, hgr.output, hgr.size, fun k hk _ => hgr.block k hk (by simp)⟩, fun k hk => Or.inr (ho'.lt k hk).1, owns_slice ho'⟩

/-- append of one record, as one step of a region that draws. -/
theorem step_append_row {ops : Array Oper} {o : Oper} {ac : Act} {w : World} {K : Act → World → Prop} {Q : Exit → Act → World → Prop} {E : Prop} (hgd : o.guard = none) (s x : Operand)
    (ho : o.op = .call { callee := .builtin .append, args := #[s, x], argTypes := #[33, 33] })
    (B : Nat) (rv : Value) (L : List ByteArray) (hs : ac.eval s = rv) (hrow : Row w B rv L) (a : Nat) (y : ByteArray) (hx : ac.eval x = .slice (some ⟨a, 0, none⟩) 1 1) (hy : w.cell? ⟨a, 0, none⟩ = some (.string y)) (hlen : L.length ≤ 1000000) (hB : B ≤ w.heap.size)
    (h : ∀ v' w', Row w' B v' (L ++ [y]) → Fr (fun k => rv.ownBlock = some k) w w' → (∀ k, v'.ownBlock = some k → rv.ownBlock = some k ∨ w.heap.size ≤ k) → (∃ p q r, v' = .slice p q r) → K (ac.put o.dst v') w') :
    if Region.wanted o (yielded ops ac.tmps) = true then Oper.wp Try.prog o ac w K Q else E := by
  have hw : Region.wanted o (yielded ops ac.tmps) = true := by simp [Region.wanted, hgd]
  rw [if_pos hw]
  obtain ⟨v', w', hr, h2, h3, h4, h5⟩ := run_append_row w B o.type rv L hrow a y hy hlen hB
  unfold Oper.wp execOp
  simp only [ho, resolve, invoke, builtin, Sem.run_bind, Sem.run_pure, Result.andThen_ok, List.map_toArray, List.map_cons, List.map_nil, hs, hx, hr]
  exact h v' w' h2 h3 h4 h5

end Go.Proofs.Ytlapgalefpenbaa

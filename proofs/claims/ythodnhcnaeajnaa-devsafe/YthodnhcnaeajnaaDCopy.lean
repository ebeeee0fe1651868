/- The copy of a list of numbers. -/
import Derived.Test.YthodnhcnaeajnaaDPlayBits
import Derived.Laws.AppendOwnNone
namespace Go.Proofs.Ythodnhcnaeajnaa
open Go.RowKit

theorem Try.info3 : (Try.prog.info? 3).map (fun i => (i.zero, i.size, i.bytes)) = some (some (.int .i64 0), 1, 8) := by kernel_rfl

def intC (L : List Int) : List Value := L.map (Value.int .i64)

theorem intC_src {w : World} {ad : Addr} {L : List Int} (h : SlI w (some ad) L) (o : Obj) : ∀ j u, (intC L)[j]? = some u → (w.alloc o).cell? (ad.add j) = some u := by
  intro j u hu
  rcases h with rfl | ⟨b, off, e, hlt, hr⟩
  · simp [intC] at hu
  · cases e
    simp only [intC, List.getElem?_map, Option.map_eq_some_iff] at hu
    obtain ⟨x, hx, rfl⟩ := hu
    rw [Addr.add_lit]
    exact ((below_alloc1 w o).cell (p := ⟨b, off + j, none⟩) hlt).trans (hr j x hx)

/-- append of a list of numbers to an empty one. -/
theorem wpList_copy_ints {ops : Array Oper} {rest : List Oper} {o : Oper} {act : Act} {Q : Exit → Act → World → Prop} (hgd : o.guard = none) (s x : Operand)
    (ho : o.op = .call { callee := .builtin .append, args := #[s, x], argTypes := #[31, 31] })
    (w : World) (H : Nat) (hH : H = w.heap.size) (hs : act.eval s = .slice (some ⟨H, 0, none⟩) 0 0) (ka : Option Addr) (L : List Int) (kc : Nat) (hx : act.eval x = .slice ka L.length kc) (hsl : SlI w ka L) (hnil : ka = none → kc = 0) (hlen : L.length ≤ kc) (hl : L.length ≤ 1000000)
    (h : ∀ b c w8, Below w.heap.size w w8 → w.heap.size ≤ b → b < w8.heap.size → SlI w8 (some ⟨b, 0, none⟩) L → wpList Try.prog ops Q rest (act.put o.dst (.slice (some ⟨b, 0, none⟩) L.length c)) w8) :
    wpList Try.prog ops Q (o :: rest) act (w.alloc (.cells #[] 3)) := by
  subst hH
  obtain ⟨i0, hi, hz0, hz1, hz2⟩ := info_parts Try.info3
  have hmade : (w.alloc (.cells #[] 3)).ownsRow w.heap.size 3 1 (.slice (some ⟨w.heap.size, 0, none⟩) 0 0) 0 [] := World.ownsRow_made w #[] 0 (Nat.le_refl _) (Nat.zero_le _) rfl
  cases ka with
  | none =>
    have e := hnil rfl
    subst e
    have e : L = [] := List.eq_nil_of_length_eq_zero (by omega)
    subst e
    refine wpList_append_own_none hgd s x 31 ho w.heap.size 3 i0 1 Try.underlying31 hi _ 0 [] hs hmade hx ?_
    exact h w.heap.size 0 _ (below_alloc1 w _) (Nat.le_refl _) (by simp) (Or.inl rfl)
  | some ad =>
    refine wpList_append_own _ hgd s x 31 ho w.heap.size 3 i0 (.int .i64 0) 1 8 Try.underlying31 hi hz0 hz1 hz2 rfl (by decide) _ 0 [] hs hmade ad L.length kc (intC L) hx (by simp [intC]) (intC_src hsl _) (by intro u hu; simp only [intC, List.mem_map] at hu; obtain ⟨y, _, rfl⟩ := hu; rfl) (by unfold maxLen; omega) (by omega) (by simp) ?_
    intro v8 w8 ho8 hg8 hn8
    rw [Nat.zero_add, List.nil_append] at ho8
    have h0 := ho8
    rcases ho8.2 with ⟨e, _⟩ | ⟨b, c, cur, rfl, hb, _⟩
    · have := hn8.1 e
      simp at this
    · refine h b c w8 ((below_alloc1 w _).trans ((Below.refl _ _).grown hg8 (by simp) (fun k hk => by cases hk; exact Nat.le_refl _))) hb (h0.lt b rfl).2 (Or.inr ⟨b, 0, rfl, (h0.lt b rfl).2, ?_⟩)
      intro i y hy
      have hlt : i < L.length := (List.getElem?_eq_some_iff.1 hy).1
      rw [Nat.zero_add, h0.cellAt i (by omega)]
      simp [intC, hy]

theorem SlI.same {w w' : World} {b : Nat} {L : List Int} (h : SlI w (some ⟨b, 0, none⟩) L) (e : w'.heap[b]? = w.heap[b]?) (hlt : b < w'.heap.size) : SlI w' (some ⟨b, 0, none⟩) L := by
  rcases h with h | ⟨b', off, e', _, hr⟩
  · exact Or.inl h
  · cases e'
    exact Or.inr ⟨b, 0, rfl, hlt, fun i x hx => (World.cell?_of_block (a := ⟨b, 0 + i, none⟩) e).trans (hr i x hx)⟩

end Go.Proofs.Ythodnhcnaeajnaa

/- Layer 10: append of a row to a row, within a region that draws its order. -/
import Derived.Test.YtkfoddblgdmabaaTrUpd
namespace Go.Proofs.Ytkfoddblgdmabaa.tr
open Go.RowKit

section
variable {α : Type} {T : TypeId} {sz : Nat} {g : α → List Value}
theorem run_append_rows {tS : TypeId} {bytes : Nat} {z : Value} (hg : ∀ x, (g x).length = sz) (h1 : ∀ x, ∀ u ∈ g x, u.oneCell' = true) (hu : Try.prog.underlying tS = some (.slice T)) (hI : (Try.prog.info? T).map (fun i => (i.zero, i.size, i.bytes)) = some (some z, sz, bytes)) (hzs : z.cells.size = sz) (hsz : 0 < sz)
    (hby : bytes ≤ 1000) (ty : TypeId) {w : World} {B B2 : Nat} {v v2 : Value} {l m : List α} (hrow : GRow T sz g w B v l) (hx : GRow T sz g w B2 v2 m) (hlen : l.length + m.length ≤ 100000) (hB : B ≤ w.heap.size) :
    ∃ v' w', (Builtin.append_ #[tS, tS] ty #[v, v2]).run Try.prog w = .ok v' w' ∧ GRow T sz g w' B v' (l ++ m) ∧ Fr (fun k => v.ownBlock = some k) w w' ∧ (∀ k, v'.ownBlock = some k → v.ownBlock = some k ∨ w.heap.size ≤ k) := by
  rcases hx.own.2 with ⟨rfl, e⟩ | ⟨b, cap, cur, rfl, hb, hq, _⟩
  · obtain ⟨i0, hi, _, hz1, _⟩ := info_parts hI
    have hm : m = [] := List.eq_nil_of_length_eq_zero e
    subst hm
    have := run_append_owned_none (P := Try.prog) (w := w) B tS ty T i0 sz hu hi v l.length _ hrow.own
    exact ⟨v, w, this, by simpa using hrow, Fr.refl _ _, fun k hk => Or.inl hk⟩
  · refine run_append_row hg h1 hu hI hzs hsz hby ty m hrow ⟨b, 0, none⟩ cap (fun j u hj => ?_) hlen hB
    have hlt : j < (m.flatMap g).length := (List.getElem?_eq_some_iff.1 hj).1
    rw [flat_len hg] at hlt
    rw [Addr.add_lit, Nat.zero_add, hx.own.cellAt j hlt]
    exact hj
theorem step_append_rows {tS : TypeId} {bytes : Nat} {z : Value} (hg : ∀ x, (g x).length = sz) (h1 : ∀ x, ∀ u ∈ g x, u.oneCell' = true) (hu : Try.prog.underlying tS = some (.slice T)) (hI : (Try.prog.info? T).map (fun i => (i.zero, i.size, i.bytes)) = some (some z, sz, bytes)) (hzs : z.cells.size = sz) (hsz : 0 < sz) (hby : bytes ≤ 1000)
    {ops : Array Oper} {o : Oper} {ac : Act} {w : World} {K : Act → World → Prop} {Q : Exit → Act → World → Prop} {E : Prop} (hgd : o.guard = none) (s x : Operand)
    (ho : o.op = .call { callee := .builtin .append, args := #[s, x], argTypes := #[tS, tS] })
    {B B2 : Nat} {v v2 : Value} {l m : List α} (hs : ac.eval s = v) (hrow : GRow T sz g w B v l) (hv : ac.eval x = v2) (hx : GRow T sz g w B2 v2 m) (hlen : l.length + m.length ≤ 100000) (hB : B ≤ w.heap.size)
    (h : ∀ v' w', GRow T sz g w' B v' (l ++ m) → Fr (fun k => v.ownBlock = some k) w w' → (∀ k, v'.ownBlock = some k → v.ownBlock = some k ∨ w.heap.size ≤ k) → K (ac.put o.dst v') w') :
    if Region.wanted o (yielded ops ac.tmps) = true then Oper.wp Try.prog o ac w K Q else E := by
  have hw : Region.wanted o (yielded ops ac.tmps) = true := by simp [Region.wanted, hgd]
  rw [if_pos hw]
  obtain ⟨v', w', hr, h2, h3, h4⟩ := run_append_rows hg h1 hu hI hzs hsz hby o.type hrow hx hlen hB
  unfold Oper.wp execOp
  simp only [ho, resolve, invoke, builtin, Sem.run_bind, Sem.run_pure, Result.andThen_ok, List.map_toArray, List.map_cons, List.map_nil, hs, hv, hr]
  exact h v' w' h2 h3 h4
theorem wpList_append_rows {tS : TypeId} {bytes : Nat} {z : Value} (hg : ∀ x, (g x).length = sz) (h1 : ∀ x, ∀ u ∈ g x, u.oneCell' = true) (hu : Try.prog.underlying tS = some (.slice T)) (hI : (Try.prog.info? T).map (fun i => (i.zero, i.size, i.bytes)) = some (some z, sz, bytes)) (hzs : z.cells.size = sz) (hsz : 0 < sz) (hby : bytes ≤ 1000)
    {ops : Array Oper} {rest : List Oper} {o : Oper} {ac : Act} {w : World} {Q : Exit → Act → World → Prop} (hgd : o.guard = none) (s x : Operand)
    (ho : o.op = .call { callee := .builtin .append, args := #[s, x], argTypes := #[tS, tS] })
    {B B2 : Nat} {v v2 : Value} {l m : List α} (hs : ac.eval s = v) (hrow : GRow T sz g w B v l) (hv : ac.eval x = v2) (hx : GRow T sz g w B2 v2 m) (hlen : l.length + m.length ≤ 100000) (hB : B ≤ w.heap.size)
    (h : ∀ v' w', GRow T sz g w' B v' (l ++ m) → Fr (fun k => v.ownBlock = some k) w w' → (∀ k, v'.ownBlock = some k → v.ownBlock = some k ∨ w.heap.size ≤ k) → wpList Try.prog ops Q rest (ac.put o.dst v') w') : wpList Try.prog ops Q (o :: rest) ac w := by
  obtain ⟨v', w', hr, h2, h3, h4⟩ := run_append_rows hg h1 hu hI hzs hsz hby o.type hrow hx hlen hB
  refine wpList_plain hgd fun K hK => ?_
  unfold Oper.wp execOp
  simp only [ho, resolve, invoke, builtin, Sem.run_bind, Sem.run_pure, Result.andThen_ok, List.map_toArray, List.map_cons, List.map_nil, hs, hv, hr]
  exact hK _ _ (h v' w' h2 h3 h4)
end

end Go.Proofs.Ytkfoddblgdmabaa.tr

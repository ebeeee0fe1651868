/- The document's pool: a copy of a row of frames, in a list of operations. -/
import Derived.Test.YtghocbaafdnddaaGreatRUsed
namespace Go.Proofs.YtghocbaafdnddaaGreat
open Go.RowKit

theorem wpList_copy_fr {ops : Array Oper} {rest : List Oper} {o : Oper} {act : Act} {Q : Exit → Act → World → Prop} (hgd : o.guard = none) (s x : Operand)
    (ho : o.op = .call { callee := .builtin .append, args := #[s, x], argTypes := #[82, 82] })
    (w : World) (N : Nat) (vs : Value) (hs : act.eval s = vs) (hrow0 : FRow w N vs []) (hN : N ≤ w.heap.size) (B : Nat) (v : Value) (l : List Fm) (hx : act.eval x = v) (hrow : FRow w B v l) (hl : l.length ≤ 1000)
    (h : ∀ v' w', FRow w' N v' l → Fr (fun k => vs.ownBlock = some k) w w' → wpList Tryz.prog ops Q rest (act.put o.dst v') w') :
    wpList Tryz.prog ops Q (o :: rest) act w := by
  obtain ⟨i0, hi, hz0, hz1, hz2⟩ := info_parts Tryz.info93
  rcases hrow.own.2 with ⟨rfl, e⟩ | ⟨g, cap, cur, rfl, _, _, hlc, hcm, _⟩
  · have e : l = [] := List.eq_nil_of_length_eq_zero e
    subst e
    refine wpList_append_own_none hgd s x 82 ho N 93 i0 4 Tryz.underlying82 hi _ 0 [] hs hrow0.own hx ?_
    exact h _ _ hrow0 (Fr.refl _ _)
  · refine wpList_append_fr w hgd s x ho N vs [] l hs hrow0 ⟨g, 0, none⟩ l.length cap rfl hx ?_ (by simp; omega) hN ?_
    · intro j u hu
      rw [Addr.add_lit, Nat.zero_add]
      have hj := (List.getElem?_eq_some_iff.1 hu).1
      rw [fcs_len] at hj
      rw [hrow.own.cellAt j (by omega)]
      exact hu
    · intro v' w' hr hf _
      exact h v' w' hr hf

theorem Rp.frow {B : Nat} {w : World} {y : RX} (h : Rp B w y) : FRow w B y.lv y.l := ⟨h.row⟩

/-- The last frame of a row. -/
theorem Rp.last {B : Nat} {w : World} {y : RX} (h : Rp B w y) {A : List Fm} {f : Fm} {z n b c : Nat} (hl : y.l = A ++ [f]) (hz : A.length = z) (hn : y.l.length = n) (e : y.lv = .slice (some ⟨b, 0, none⟩) n c) :
    w.cell? ⟨b, z * 4, none⟩ = some (.int .i64 (f.pg : Int)) ∧ w.cell? ⟨b, z * 4 + 1, none⟩ = some (.int .i64 (f.pins : Int)) ∧ w.cell? ⟨b, z * 4 + 2, none⟩ = some (.string f.s) ∧ w.cell? ⟨b, z * 4 + 3, none⟩ = some (.bool f.dirty) ∧ (∀ o, w.frozen? ⟨b, o, none⟩ = false) ∧
    ∀ (o : Nat) (u : Value) (g : Fm), o < 4 → (fc4 f).set o u = fc4 g → RpTo B w y { y with l := A ++ [g] } (w.setCell ⟨b, z * 4 + o, none⟩ u) := by
  have hi : y.l[z]? = some f := by rw [hl, ← hz]; simp
  obtain ⟨b', c', e', _, _, _, _, _, k0, k1, k2, k3, kf⟩ := h.at hi
  rw [e, hn] at e'
  cases e'
  refine ⟨k0, k1, k2, k3, kf, fun o u g ho hg => ?_⟩
  have t := h.setF (g := g) hi (by rw [hn]; exact e) o u ho hg
  have es : y.l.set z g = A ++ [g] := by rw [hl, ← hz, set_last]
  rw [es] at t
  exact t
end Go.Proofs.YtghocbaafdnddaaGreat

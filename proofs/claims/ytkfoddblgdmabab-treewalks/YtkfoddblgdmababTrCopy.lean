/- Layer 10: copy of a node, and of all below it; Copy. -/
import Derived.Test.YtkfoddblgdmababTrCopyMath
import Derived.Test.YtkfoddblgdmababTrTree
namespace Go.Proofs.Ytkfoddblgdmabab.tr
open Go.RowKit

section
variable {w w' : World} {B : Nat} {M : Mp} {f : Nat}
/-- What copy makes of a kid. -/
structure Kc (M : Mp) (f h k : Nat) (W W' : World) (c : Nat) (M2 : Mp) : Prop where
  mm : Mm W' W.heap.size M2
  cp : ∀ L F, Kid M f h k L F → ∃ F', Kid M2 f h c L F' ∧ F'.Nodup
  bel : Below W.heap.size W W'
theorem Kc.cp2 {h k c : Nat} {W W' : World} {M2 : Mp} (g : Kc M f h k W W' c M2) : Cp M M2 f h k c W.heap.size W'.heap.size := fun L F hk => by
  obtain ⟨F', h1, h2⟩ := g.cp L F hk
  exact ⟨F', h1, h2, fun x hx => by
    have := h1.1.all x hx
    cases e : M2 x with
    | none => exact absurd e this
    | some n => exact g.mm.lt ⟨x, n, e, Or.inl rfl⟩⟩

/-- Where the loop of copy stands. -/
structure Cl (M : Mp) (f h : Nat) (n : Nr) (N c k : Nat) (w W : World) (M2 : Mp) (ev kv : Value) (K' : List Nat) : Prop where
  mm : Mm W N M2
  top : M2 c = some ⟨ev, kv, n.es, K'⟩
  cps : Cps M M2 f h (n.ks.take k) K' (c + 1) W.heap.size
  bel : Below N w W
theorem Cl.cell {h N c k : Nat} {n : Nr} {W : World} {M2 : Mp} {ev kv : Value} {K' : List Nat} (g : Cl M f h n N c k w W M2 ev kv K') : ∀ V, Fr (fun j => kv.ownBlock = some j) W V → V.cell? ⟨c, 1, none⟩ = some kv ∧ V.frozen? ⟨c, 1, none⟩ = false := fun V hf => by
  have t := g.mm.top3 g.top hf
  obtain ⟨_, c1, _, c2⟩ := ncell t
  exact ⟨c1, c2⟩
theorem Cl.same {h N c k : Nat} {n : Nr} {W W' : World} {M2 : Mp} {ev kv : Value} {K' : List Nat} (g : Cl M f h n N c k w W M2 ev kv K') (hb : Below W.heap.size W W') (hs : W'.heap.size = W.heap.size) (hN : N ≤ w.heap.size) : Cl M f h n N c k w W' M2 ev kv K' :=
  ⟨g.mm.below hb, g.top, by rw [hs]; exact g.cps, g.bel.trans (hb.mono (Nat.le_trans hN g.bel.size))⟩
/-- A round of the loop. -/
theorem Cl.next {h N c k kid kc : Nat} {n : Nr} {W W1 W2 W3 : World} {M2 M3 : Mp} {ev kv v2 : Value} {K' : List Nat} (g : Cl M f h n N c k w W M2 ev kv K') (hk : n.ks[k]? = some kid) (q : Kc M f h kid W W1 kc M3) (hb : Below W1.heap.size W1 W2)
    (row : RowK W3 N v2 (K' ++ [kc])) (fr : Fr (fun j => kv.ownBlock = some j) W2 W3) (new : ∀ j, v2.ownBlock = some j → kv.ownBlock = some j ∨ W2.heap.size ≤ j) (hN : N ≤ w.heap.size) :
    ∃ M4, Cl M f h n N c (k + 1) w (W3.setCell ⟨c, 1, none⟩ v2) M4 ev v2 (K' ++ [kc]) := by
  have hcl : c < W.heap.size := (g.mm.lt ⟨c, _, g.top, Or.inl rfl⟩).2
  have hlt : ∀ j, Ft M2 j → j < W.heap.size := fun j hj => (g.mm.lt hj).2
  have hNW : N ≤ W.heap.size := Nat.le_trans hN g.bel.size
  have m1 : Mm W2 N (Mp.cut W.heap.size M2 M3) := ((g.mm.below q.bel).cut q.mm hNW hlt).below hb
  have htop : Mp.cut W.heap.size M2 M3 c = some ⟨ev, kv, n.es, K'⟩ := (Mp.cut_lo hcl).trans g.top
  obtain ⟨m4, t4⟩ := m1.kids' htop fr row new
  have hs3 := t4.fr.size
  have hs2 := hb.size
  refine ⟨_, ⟨m4, Mp.put_same _ _ _, ?_, ?_⟩⟩
  · rw [List.take_add_one, hk]
    refine (Cps.snoc (mid := W.heap.size) (hi := W1.heap.size) ?_ q.bel.size ?_).more (by omega)
    · exact q.cp2.congr (fun x h1 _ => by rw [Mp.put_other _ _ (by omega), Mp.cut_hi h1])
    · exact g.cps.congr (fun x h1 h2 => by rw [Mp.put_other _ _ (by omega), Mp.cut_lo h2])
  · have f4 : Fr (Ft (Mp.cut W.heap.size M2 M3)) W2 (W3.setCell ⟨c, 1, none⟩ v2) := t4.fr
    exact f4.below ((g.bel.trans (q.bel.mono hNW)).trans (hb.mono (by have := q.bel.size; omega))) (by have := q.bel.size; omega) (fun j hj => (m1.lt hj).1)

end

end Go.Proofs.Ytkfoddblgdmabab.tr

/- Slots in memory: rows of two cells a slot. -/
import Derived.Test.YtjmdenlocmleiaaPMath
import Derived.Test.YtjmdenlocmleiaaQOne
import Derived.Laws.AppendOwnNone
import Derived.Lib.Walk
import Derived.Deep.RegionHeld3
import Derived.BigQuiet
namespace Go.Proofs.Ytjmdenlocmleiaa
open Go.RowKit

theorem Fr.of_grown {w w' : World} {row : Option Nat} (h : w.grownBy w' row) : Fr (fun k => row = some k) w w' :=
  ⟨h.os, h.tape, h.output, h.size, fun k hk hF => h.block k hk (fun e => hF e.symm)⟩

/-- The cells of slots: two a slot. -/
def cl2 (f : Sl → Value × Value) : List Sl → List Value
  | [] => []
  | s :: l => (f s).1 :: (f s).2 :: cl2 f l

section
variable {f : Sl → Value × Value}
theorem cl2_len (l : List Sl) : (cl2 f l).length = l.length * 2 := by
  induction l with
  | nil => rfl
  | cons s l ih => simp [cl2, ih]; omega
theorem cl2_append (a b : List Sl) : cl2 f (a ++ b) = cl2 f a ++ cl2 f b := by
  induction a with
  | nil => rfl
  | cons s a ih => simp [cl2, ih]
theorem cl2_get (l : List Sl) (i : Nat) (s : Sl) (h : l[i]? = some s) : (cl2 f l)[i * 2]? = some (f s).1 ∧ (cl2 f l)[i * 2 + 1]? = some (f s).2 := by
  induction l generalizing i with
  | nil => simp at h
  | cons x l ih =>
    cases i with
    | zero => simp at h; subst h; exact ⟨rfl, rfl⟩
    | succ i =>
      simp at h
      rw [show (i + 1) * 2 = i * 2 + 1 + 1 by omega]
      exact ih i h
theorem cl2_take (l : List Sl) (k : Nat) : (cl2 f l).take (k * 2) = cl2 f (l.take k) := by
  induction l generalizing k with
  | nil => simp [cl2]
  | cons x l ih =>
    cases k with
    | zero => simp [cl2]
    | succ k => rw [show (k + 1) * 2 = k * 2 + 1 + 1 by omega]; simp [cl2, ih]
theorem cl2_set2 (l : List Sl) (i : Nat) (s : Sl) : ((cl2 f l).set (i * 2) (f s).1).set (i * 2 + 1) (f s).2 = cl2 f (l.set i s) := by
  induction l generalizing i with
  | nil => rfl
  | cons x l ih =>
    cases i with
    | zero => rfl
    | succ i => rw [show (i + 1) * 2 = i * 2 + 1 + 1 by omega]; simp [cl2, ih]
theorem cl2_setB (l : List Sl) (i : Nat) (s x : Sl) (hx : l[i]? = some x) (h : (f x).1 = (f s).1) : (cl2 f l).set (i * 2 + 1) (f s).2 = cl2 f (l.set i s) := by
  induction l generalizing i with
  | nil => rfl
  | cons y l ih =>
    cases i with
    | zero => simp at hx; subst hx; simp [cl2, h]
    | succ i => simp at hx; rw [show (i + 1) * 2 = i * 2 + 1 + 1 by omega]; simp [cl2, ih i hx]
theorem cl2_setA (l : List Sl) (i : Nat) (s x : Sl) (hx : l[i]? = some x) (h : (f x).2 = (f s).2) : (cl2 f l).set (i * 2) (f s).1 = cl2 f (l.set i s) := by
  induction l generalizing i with
  | nil => rfl
  | cons y l ih =>
    cases i with
    | zero => simp at hx; subst hx; simp [cl2, h]
    | succ i => simp at hx; rw [show (i + 1) * 2 = i * 2 + 1 + 1 by omega]; simp [cl2, ih i hx]
end

theorem own_set {w : World} {B : Nat} {T : TypeId} {sz n b c : Nat} {xs : List Value} (h : w.ownsRow B T sz (.slice (some ⟨b, 0, none⟩) n c) n xs) (o : Nat) (x : Value) : (w.setCell ⟨b, o, none⟩ x).ownsRow B T sz (.slice (some ⟨b, 0, none⟩) n c) n (xs.set o x) := by
  refine ⟨by simpa using h.1, ?_⟩
  rcases h.2 with ⟨e, _⟩ | ⟨g, cap, cur, e, h1, h2, h3, h4, h5, h6⟩
  · cases e
  · cases e
    refine Or.inr ⟨b, c, _, rfl, h1, heap_setCell_same w b o cur T x h2, h3, h4, by simpa using h5, ?_⟩
    rw [Array.toList_setIfInBounds, List.take_set, h6]
theorem own_take {w : World} {B : Nat} {T : TypeId} {sz n k c : Nat} {a : Option Addr} {xs : List Value} (h : w.ownsRow B T sz (.slice a n c) n xs) (hk : k ≤ n) : w.ownsRow B T sz (.slice a k c) k (xs.take (k * sz)) := by
  refine ⟨?_, ?_⟩
  · rw [List.length_take, h.1]
    exact Nat.min_eq_left (Nat.mul_le_mul_right _ hk)
  · rcases h.2 with ⟨e, rfl⟩ | ⟨g, cap, cur, e, h1, h2, h3, h4, h5, h6⟩
    · have : k = 0 := by omega
      subst this
      exact Or.inl ⟨e, rfl⟩
    · cases e
      refine Or.inr ⟨g, c, cur, rfl, h1, h2, by omega, h4, h5, ?_⟩
      rw [← h6, List.take_take, Nat.min_eq_left (Nat.mul_le_mul_right _ hk)]
theorem own_mono {w : World} {B B' : Nat} {T : TypeId} {sz n : Nat} {v : Value} {xs : List Value} (h : w.ownsRow B T sz v n xs) (hB : B' ≤ B) : w.ownsRow B' T sz v n xs := by
  refine ⟨h.1, ?_⟩
  rcases h.2 with e | ⟨g, cap, cur, e, h1, r⟩
  · exact Or.inl e
  · exact Or.inr ⟨g, cap, cur, e, Nat.le_trans hB h1, r⟩

/-- Slots in memory, in blocks from B on. -/
structure Rw (T : TypeId) (f : Sl → Value × Value) (w : World) (B : Nat) (v : Value) (l : List Sl) : Prop where
  own : w.ownsRow B T 2 v l.length (cl2 f l)

section
variable {T : TypeId} {f : Sl → Value × Value} {w w' : World} {B : Nat} {v : Value} {l : List Sl}
theorem Rw.blk (h : Rw T f w B v l) {k : Nat} (hk : v.ownBlock = some k) : B ≤ k ∧ k < w.heap.size := h.own.lt k hk
theorem Rw.kept (h : Rw T f w B v l) (h1 : ∀ k, v.ownBlock = some k → w'.heap[k]? = w.heap[k]?) : Rw T f w' B v l := by
  refine ⟨⟨h.own.1, ?_⟩⟩
  rcases h.own.2 with e | ⟨g, cap, cur, rfl, a, b, c⟩
  · exact Or.inl e
  · exact Or.inr ⟨g, cap, cur, rfl, a, (h1 g rfl).trans b, c⟩
theorem Rw.below {B' : Nat} (h : Rw T f w B v l) (hb : Below B' w w') (hk : ∀ k, v.ownBlock = some k → k < B') : Rw T f w' B v l :=
  h.kept (fun k e => hb.block k (hk k e))
theorem Rw.below' (h : Rw T f w B v l) (hb : Below w.heap.size w w') : Rw T f w' B v l := h.below hb (fun _ e => (h.blk e).2)
theorem Rw.mono {B' : Nat} (h : Rw T f w B v l) (hB : B' ≤ B) : Rw T f w B' v l := ⟨own_mono h.own hB⟩
theorem Rw.len (h : Rw T f w B v l) : ∃ a c, v = .slice a l.length c ∧ l.length ≤ c ∧ c ≤ maxLen := by
  rcases h.own.2 with ⟨rfl, e⟩ | ⟨g, cap, cur, rfl, _, _, c, d, _⟩
  · rw [e]; exact ⟨_, _, rfl, Nat.le_refl _, Nat.zero_le _⟩
  · exact ⟨_, _, rfl, c, d⟩
theorem Rw.cell (h : Rw T f w B v l) {i : Nat} {s : Sl} (hs : l[i]? = some s) : ∃ b c, v = .slice (some ⟨b, 0, none⟩) l.length c ∧ l.length ≤ c ∧ c ≤ maxLen ∧ B ≤ b ∧ b < w.heap.size ∧ w.cell? ⟨b, i * 2, none⟩ = some (f s).1 ∧ w.cell? ⟨b, i * 2 + 1, none⟩ = some (f s).2 ∧ w.frozen? ⟨b, i * 2, none⟩ = false ∧ w.frozen? ⟨b, i * 2 + 1, none⟩ = false := by
  have hlt : i < l.length := (List.getElem?_eq_some_iff.1 hs).1
  have h0 := h.own
  rcases h.own.2 with ⟨_, e⟩ | ⟨g, cap, cur, rfl, hb, hg, c, d, _⟩
  · omega
  · obtain ⟨x, y⟩ := cl2_get (f := f) l i s hs
    exact ⟨g, cap, rfl, c, d, hb, (Array.getElem?_eq_some_iff.1 hg).1, by rw [h0.cellAt _ (by omega)]; exact x, by rw [h0.cellAt _ (by omega)]; exact y, frozen_of_row w g _ _ _ hg, frozen_of_row w g _ _ _ hg⟩
theorem Rw.take {a : Option Addr} {c k : Nat} (h : Rw T f w B (.slice a l.length c) l) (hk : k ≤ l.length) : Rw T f w B (.slice a k c) (l.take k) := by
  have := own_take h.own hk
  rw [cl2_take] at this
  refine ⟨?_⟩
  rw [List.length_take, Nat.min_eq_left hk]
  exact this
theorem Rw.set2 {b c i : Nat} {s : Sl} (h : Rw T f w B (.slice (some ⟨b, 0, none⟩) l.length c) l) : Rw T f ((w.setCell ⟨b, i * 2, none⟩ (f s).1).setCell ⟨b, i * 2 + 1, none⟩ (f s).2) B (.slice (some ⟨b, 0, none⟩) l.length c) (l.set i s) := by
  have := own_set (own_set h.own (i * 2) (f s).1) (i * 2 + 1) (f s).2
  rw [cl2_set2] at this
  refine ⟨?_⟩
  rw [List.length_set]
  exact this
theorem Rw.setB {b c i : Nat} {s x : Sl} (h : Rw T f w B (.slice (some ⟨b, 0, none⟩) l.length c) l) (hx : l[i]? = some x) (e : (f x).1 = (f s).1) : Rw T f (w.setCell ⟨b, i * 2 + 1, none⟩ (f s).2) B (.slice (some ⟨b, 0, none⟩) l.length c) (l.set i s) := by
  have := own_set h.own (i * 2 + 1) (f s).2
  rw [cl2_setB l i s x hx e] at this
  refine ⟨?_⟩
  rw [List.length_set]
  exact this
theorem Rw.setA {b c i : Nat} {s x : Sl} (h : Rw T f w B (.slice (some ⟨b, 0, none⟩) l.length c) l) (hx : l[i]? = some x) (e : (f x).2 = (f s).2) : Rw T f (w.setCell ⟨b, i * 2, none⟩ (f s).1) B (.slice (some ⟨b, 0, none⟩) l.length c) (l.set i s) := by
  have := own_set h.own (i * 2) (f s).1
  rw [cl2_setA l i s x hx e] at this
  refine ⟨?_⟩
  rw [List.length_set]
  exact this
end

/-- A slot of the program; a slot of the document. -/
def cf (s : Sl) : Value × Value := (.bool s.isSome, .string (rowOf s))
def rf (s : Sl) : Value × Value := (.string (rowOf s), .bool s.isSome)
theorem Try.info94 : (Try.prog.info? 94).map (fun i => (i.zero, i.size, i.bytes)) = some (some (.agg #[.bool false, .string ⟨#[]⟩]), 2, 24) := by kernel_rfl

theorem cf_one (l : List Sl) : ∀ u ∈ cl2 cf l, u.oneCell' = true := by
  induction l with
  | nil => intro u h; cases h
  | cons s l ih =>
    intro u h
    simp only [cl2, List.mem_cons] at h
    rcases h with rfl | rfl | h
    · rfl
    · rfl
    · exact ih u h
theorem rf_one (l : List Sl) : ∀ u ∈ cl2 rf l, u.oneCell' = true := by
  induction l with
  | nil => intro u h; cases h
  | cons s l ih =>
    intro u h
    simp only [cl2, List.mem_cons] at h
    rcases h with rfl | rfl | h
    · rfl
    · rfl
    · exact ih u h

/-- append to a row of the program's slots. -/
theorem run_append_cf (w : World) (B : Nat) (ty : TypeId) (v : Value) (l m : List Sl) (h : Rw 94 cf w B v l) (a : Addr) (c : Nat) (hm : ∀ j u, (cl2 cf m)[j]? = some u → w.cell? (a.add j) = some u) (hlen : l.length + m.length ≤ 1000000) (hB : B ≤ w.heap.size) :
    ∃ v' w', (Builtin.append_ #[90, 90] ty #[v, .slice (some a) m.length c]).run Try.prog w = .ok v' w' ∧ Rw 94 cf w' B v' (l ++ m) ∧ Fr (fun k => v.ownBlock = some k) w w' ∧ ∀ k, v'.ownBlock = some k → v.ownBlock = some k ∨ w.heap.size ≤ k := by
  obtain ⟨i0, hi, hz0, hz1, hz2⟩ := info_parts Try.info94
  obtain ⟨v', w', hr, h2, h3, h4⟩ := run_append_own2 (P := Try.prog) w B 90 ty 94 i0 _ 2 24 Try.underlying90 hi hz0 hz1 hz2 rfl (by decide) v l.length (cl2 cf l) h.own a m.length c (cl2 cf m) (cl2_len m) hm (cf_one m) (by unfold maxLen; omega) (by omega) hB
  refine ⟨v', w', hr, ⟨?_⟩, Fr.of_grown h3, h4⟩
  rw [List.length_append, cl2_append]
  exact h2

/-- append of one slot, in a list of operations. -/
theorem wpList_append_cf {ops : Array Oper} {rest : List Oper} {o : Oper} {ac : Act} {Q : Exit → Act → World → Prop} (w : World) (hgd : o.guard = none) (s x : Operand)
    (ho : o.op = .call { callee := .builtin .append, args := #[s, x], argTypes := #[90, 90] })
    (B : Nat) (v : Value) (l : List Sl) (hs : ac.eval s = v) (hrow : Rw 94 cf w B v l) (a : Nat) (y : Sl) (hx : ac.eval x = .slice (some ⟨a, 0, none⟩) 1 1) (h0 : w.cell? ⟨a, 0, none⟩ = some (cf y).1) (h1 : w.cell? ⟨a, 1, none⟩ = some (cf y).2) (hlen : l.length ≤ 1000) (hB : B ≤ w.heap.size)
    (h : ∀ v' w', Rw 94 cf w' B v' (l ++ [y]) → Fr (fun k => v.ownBlock = some k) w w' → (∀ k, v'.ownBlock = some k → v.ownBlock = some k ∨ w.heap.size ≤ k) → wpList Try.prog ops Q rest (ac.put o.dst v') w') : wpList Try.prog ops Q (o :: rest) ac w := by
  obtain ⟨v', w', hr, h2, h3, h4⟩ := run_append_cf w B o.type v l [y] hrow ⟨a, 0, none⟩ 1 (by
    intro j u hu
    rw [Addr.add_lit]
    match j, hu with
    | 0, hu => simp [cl2] at hu; subst hu; exact h0
    | 1, hu => simp [cl2] at hu; subst hu; exact h1) (by simp; omega) hB
  refine wpList_plain hgd fun K hK => ?_
  unfold Oper.wp execOp
  simp only [List.length_cons, List.length_nil, Nat.zero_add] at hr
  simp only [ho, resolve, invoke, builtin, Sem.run_bind, Sem.run_pure, Result.andThen_ok, List.map_toArray, List.map_cons, List.map_nil, hs, hx, hr]
  exact hK _ _ (h v' w' h2 h3 h4)

end Go.Proofs.Ytjmdenlocmleiaa

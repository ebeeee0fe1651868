/- How a pool lies in memory. -/
import Derived.Test.YtkjioabhdglkpaaGreatLDev
import Derived.Test.YtkjioabhdglkpaaGreatQChan
import Derived.Laws.AppendOwnNone
import Derived.Lib.Walk
import Derived.BigQuiet
import Derived.Lib.OwnBridge
namespace Go.Proofs.YtkjioabhdglkpaaGreat
open Go.RowKit

/-- A frame. -/
structure Fm where
  pg : Nat
  s : ByteArray
  pins : Nat
  dirty : Bool

def Fm0 : Fm := ⟨0, ⟨#[]⟩, 0, false⟩
def fobj (f : Fm) : Obj := .cells #[.int .i64 (f.pg : Int), .string f.s, .int .i64 (f.pins : Int), .bool f.dirty] 117 (0, 0)
def ptr (b : Nat) : Value := .pointer (some ⟨b, 0, none⟩)
def ptrs (L : List (Nat × Fm)) : List Value := L.map (fun x => ptr x.1)

/-- Where a pool lies, and what it has: its frames that are held (L), those that somebody has in hand (O), those that wait (F). -/
structure PX where
  p : Nat
  c : Nat
  g : Nat
  gs : Nat
  fv : Value
  hv : Value
  dv : Value
  n : Nat
  L : List (Nat × Fm)
  O : List (Nat × Fm)
  F : List Nat
  rd : Nat
  wr : Nat
  D : DS

def PX.own (x : PX) (k : Nat) : Prop := k = x.p ∨ k = x.c ∨ x.hv.ownBlock = some k ∨ k ∈ (x.L ++ x.O).map Prod.fst ∨ k ∈ x.F
def PX.ft (x : PX) (k : Nat) : Prop := x.own k ∨ foot x.g x.gs x.dv k

structure Pd (B : Nat) (w : World) (x : PX) : Prop where
  pool : w.heap[x.p]? = some (.cells #[.pointer (some ⟨x.g, 0, none⟩), .chan (some x.c), x.fv, .int .i64 (x.rd : Int), .int .i64 (x.wr : Int)] 100 (0, 0))
  chan : ∃ s r, w.heap[x.c]? = some (.chan x.n (x.F.map ptr).toArray false s r false)
  row : w.ownsRow B 84 1 x.hv x.L.length (ptrs x.L)
  fr : ∀ y ∈ x.L ++ x.O, w.heap[y.1]? = some (fobj y.2) ∧ B ≤ y.1
  free : ∀ b ∈ x.F, w.heap[b]? = some (fobj Fm0) ∧ B ≤ b
  nd : ((x.L ++ x.O).map Prod.fst ++ x.F).Nodup
  len : x.L.length + x.O.length + x.F.length = x.n
  pB : B ≤ x.p
  cB : B ≤ x.c
  dev : Dev B w x.g x.gs x.dv x.D

def tagOf : Option Obj → Option Nat
  | some (.cells _ t _) => some t
  | _ => none

theorem own_tag {w : World} {B e sz n k : Nat} {v : Value} {xs : List Value} (h : w.ownsRow B e sz v n xs) (hk : v.ownBlock = some k) : tagOf w.heap[k]? = some e := by
  rcases h.2 with ⟨rfl, _⟩ | ⟨g, cap, cur, rfl, _, hg, _⟩
  · simp [Value.ownBlock] at hk
  · simp [Value.ownBlock] at hk
    subst hk
    rw [hg]; rfl

theorem lt_of_some {w : World} {k : Nat} {o : Obj} (h : w.heap[k]? = some o) : k < w.heap.size := (Array.getElem?_eq_some_iff.1 h).1

section
variable {B : Nat} {w w' : World} {x : PX}

theorem Pd.inL (h : Pd B w x) {i : Nat} {y : Nat × Fm} (hi : x.L[i]? = some y) : w.heap[y.1]? = some (fobj y.2) ∧ B ≤ y.1 :=
  h.fr y (List.mem_append_left _ (List.mem_of_getElem? hi))

theorem Pd.tagOwn (h : Pd B w x) {k : Nat} (hk : x.own k) : tagOf w.heap[k]? = some 100 ∨ tagOf w.heap[k]? = none ∨ tagOf w.heap[k]? = some 84 ∨ tagOf w.heap[k]? = some 117 := by
  rcases hk with rfl | rfl | hk | hk | hk
  · rw [h.pool]; exact Or.inl rfl
  · obtain ⟨s, r, hc⟩ := h.chan
    rw [hc]; exact Or.inr (Or.inl rfl)
  · exact Or.inr (Or.inr (Or.inl (own_tag h.row hk)))
  · obtain ⟨y, hy, rfl⟩ := List.mem_map.1 hk
    rw [(h.fr y hy).1]; exact Or.inr (Or.inr (Or.inr rfl))
  · rw [(h.free k hk).1]; exact Or.inr (Or.inr (Or.inr rfl))

theorem Dev.tag {g gs : Nat} {hv : Value} {D : DS} (h : Dev B w g gs hv D) {k : Nat} (hk : foot g gs hv k) : tagOf w.heap[k]? = some 109 ∨ tagOf w.heap[k]? = some 114 ∨ tagOf w.heap[k]? = some 111 := by
  rcases hk with rfl | rfl | hk
  · rw [h.dev]; exact Or.inl rfl
  · obtain ⟨cur, h1, _⟩ := h.sec
    rw [h1]; exact Or.inr (Or.inl rfl)
  · exact Or.inr (Or.inr (own_tag h.own hk))

theorem Pd.apart (h : Pd B w x) {k : Nat} (h1 : x.own k) (h2 : foot x.g x.gs x.dv k) : False := by
  rcases h.tagOwn h1 with a | a | a | a <;> rcases h.dev.tag h2 with b | b | b <;> rw [a] at b <;> simp at b

theorem Pd.ltOwn (h : Pd B w x) {k : Nat} (hk : x.own k) : k < w.heap.size := by
  rcases hk with rfl | rfl | hk | hk | hk
  · exact lt_of_some h.pool
  · obtain ⟨s, r, hc⟩ := h.chan
    exact lt_of_some hc
  · exact (h.row.lt k hk).2
  · obtain ⟨y, hy, rfl⟩ := List.mem_map.1 hk
    exact lt_of_some (h.fr y hy).1
  · exact lt_of_some (h.free k hk).1

theorem Pd.lt (h : Pd B w x) {k : Nat} (hk : x.ft k) : k < w.heap.size := hk.elim h.ltOwn (h.dev.lt k)

theorem Pd.from (h : Pd B w x) {k : Nat} (hk : x.ft k) : B ≤ k := by
  rcases hk with (rfl | rfl | hk | hk | hk) | hk
  · exact h.pB
  · exact h.cB
  · exact (h.row.lt k hk).1
  · obtain ⟨y, hy, rfl⟩ := List.mem_map.1 hk
    exact (h.fr y hy).2
  · exact (h.free k hk).2
  · exact h.dev.from k hk

theorem Pd.keptOwn (h : Pd B w x) (hd : Dev B w' x.g x.gs x.dv x.D) (hk : ∀ k, x.own k → w'.heap[k]? = w.heap[k]?) : Pd B w' x := by
  have mo : ∀ y ∈ x.L ++ x.O, x.own y.1 := fun y hy => Or.inr (Or.inr (Or.inr (Or.inl (List.mem_map.2 ⟨y, hy, rfl⟩))))
  refine ⟨(hk _ (Or.inl rfl)).trans h.pool, ?_, ?_, fun y hy => ⟨(hk _ (mo y hy)).trans (h.fr y hy).1, (h.fr y hy).2⟩, fun b hb => ⟨(hk _ (Or.inr (Or.inr (Or.inr (Or.inr hb))))).trans (h.free b hb).1, (h.free b hb).2⟩, h.nd, h.len, h.pB, h.cB, hd⟩
  · obtain ⟨s, r, hc⟩ := h.chan
    exact ⟨s, r, (hk _ (Or.inr (Or.inl rfl))).trans hc⟩
  · exact owns_kept h.row (fun k e _ => hk k (Or.inr (Or.inr (Or.inl e))))

theorem Pd.kept (h : Pd B w x) (hk : ∀ k, x.ft k → w'.heap[k]? = w.heap[k]?) : Pd B w' x :=
  h.keptOwn (h.dev.kept (fun k e => hk k (Or.inr e))) (fun k e => hk k (Or.inl e))
theorem Pd.below (h : Pd B w x) (hb : Below w.heap.size w w') : Pd B w' x := h.kept (fun k e => hb.block k (h.lt e))

/-- The pool's own cells. -/
theorem Pd.cell (h : Pd B w x) : w.cell? ⟨x.p, 0, none⟩ = some (.pointer (some ⟨x.g, 0, none⟩)) ∧ w.cell? ⟨x.p, 1, none⟩ = some (.chan (some x.c)) ∧ w.cell? ⟨x.p, 2, none⟩ = some x.fv ∧ w.cell? ⟨x.p, 3, none⟩ = some (.int .i64 (x.rd : Int)) ∧ w.cell? ⟨x.p, 4, none⟩ = some (.int .i64 (x.wr : Int)) := by
  refine ⟨?_, ?_, ?_, ?_, ?_⟩ <;> simp [World.cell?, h.pool]

theorem fobj_cell {b : Nat} {f : Fm} (h : w.heap[b]? = some (fobj f)) : w.cell? ⟨b, 0, none⟩ = some (.int .i64 (f.pg : Int)) ∧ w.cell? ⟨b, 1, none⟩ = some (.string f.s) ∧ w.cell? ⟨b, 2, none⟩ = some (.int .i64 (f.pins : Int)) ∧ w.cell? ⟨b, 3, none⟩ = some (.bool f.dirty) := by
  refine ⟨?_, ?_, ?_, ?_⟩ <;> simp [World.cell?, h, fobj]

theorem Pd.free? (h : Pd B w x) (o : Nat) : w.frozen? ⟨x.p, o, none⟩ = false := by simp [World.frozen?, h.pool]
theorem fobj_free {b : Nat} {f : Fm} (h : w.heap[b]? = some (fobj f)) (o : Nat) : w.frozen? ⟨b, o, none⟩ = false := by simp [World.frozen?, h, fobj]

theorem Pd.hvOf (h : Pd B w x) : ∃ a c, x.hv = .slice a x.L.length c ∧ x.L.length ≤ c ∧ c ≤ maxLen := by
  rcases h.row.2 with ⟨e, n0⟩ | ⟨g, cap, cur, e, _, _, c, d, _⟩
  · rw [e, n0]; exact ⟨_, _, rfl, Nat.le_refl _, Nat.zero_le _⟩
  · exact ⟨_, _, e, c, d⟩

theorem own1_cell {T : TypeId} {v : Value} {n : Nat} {xs : List Value} (h : w.ownsRow B T 1 v n xs) {i : Nat} {u : Value} (hi : xs[i]? = some u) : ∃ a c, v = .slice (some ⟨a, 0, none⟩) n c ∧ n ≤ c ∧ c ≤ maxLen ∧ B ≤ a ∧ a < w.heap.size ∧ i < n ∧ w.cell? ⟨a, i, none⟩ = some u := by
  have hlt : i < xs.length := (List.getElem?_eq_some_iff.1 hi).1
  have hl := h.1
  have h0 := h
  rcases h.2 with ⟨_, e⟩ | ⟨g, cap, cur, rfl, hb, hg, c, d, _⟩
  · omega
  · exact ⟨g, cap, rfl, c, d, hb, lt_of_some hg, by omega, by rw [h0.cellAt _ (by omega)]; exact hi⟩

theorem Pd.rowAt (h : Pd B w x) {i b : Nat} {f : Fm} (hi : x.L[i]? = some (b, f)) : ∃ a c, x.hv = .slice (some ⟨a, 0, none⟩) x.L.length c ∧ x.L.length ≤ c ∧ c ≤ maxLen ∧ B ≤ a ∧ a < w.heap.size ∧ i < x.L.length ∧ w.cell? ⟨a, i, none⟩ = some (.pointer (some ⟨b, 0, none⟩)) :=
  own1_cell h.row (i := i) (u := .pointer (some ⟨b, 0, none⟩)) (by simp [ptrs, hi, ptr])

end

/-- What a call makes of a pool. -/
structure PTo (B : Nat) (w : World) (x x' : PX) (w' : World) : Prop where
  pd : Pd B w' x'
  fr : Fr x.ft w w'
  p : x'.p = x.p
  c : x'.c = x.c
  g : x'.g = x.g
  gs : x'.gs = x.gs
  n : x'.n = x.n
  new : ∀ k, x'.ft k → x.ft k ∨ w.heap.size ≤ k

section
variable {B : Nat} {w w' w1 w2 : World} {x x1 x2 : PX}
theorem PTo.refl (h : Pd B w x) : PTo B w x x w := ⟨h, Fr.refl _ _, rfl, rfl, rfl, rfl, rfl, fun _ e => Or.inl e⟩
theorem PTo.of_below (h : Pd B w x) (hb : Below w.heap.size w w') : PTo B w x x w' := ⟨h.below hb, Fr.of_below hb, rfl, rfl, rfl, rfl, rfl, fun _ e => Or.inl e⟩
theorem PTo.trans (h : PTo B w x x1 w1) (k : PTo B w1 x1 x2 w2) : PTo B w x x2 w2 :=
  ⟨k.pd, h.fr.trans k.fr (fun i hi e => (h.new i e).resolve_right (by omega)), k.p.trans h.p, k.c.trans h.c, k.g.trans h.g, k.gs.trans h.gs, k.n.trans h.n,
    fun i e => (k.new i e).elim (h.new i) (fun q => Or.inr (Nat.le_trans h.fr.size q))⟩
theorem PTo.below (h : PTo B w x x1 w1) (hb : Below w1.heap.size w1 w2) : PTo B w x x1 w2 := h.trans (.of_below h.pd hb)
theorem PTo.bel {W : World} (h : PTo B w x x1 w1) (hx : Pd B w x) (hb : Below W.heap.size W w) (hB : W.heap.size ≤ B) : Below W.heap.size W w1 :=
  h.fr.below hb hb.size (fun _ hk => Nat.le_trans hB (hx.from hk))
end

end Go.Proofs.YtkjioabhdglkpaaGreat

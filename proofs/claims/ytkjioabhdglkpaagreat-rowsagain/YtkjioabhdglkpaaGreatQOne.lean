/- A pool and its device, beside all that was there. -/
import Derived.Test.YtkjioabhdglkpaaGreatQNew
namespace Go.Proofs.YtkjioabhdglkpaaGreat
open Go.RowKit

/-- A pool, in a state, beside blocks of others that it leaves alone. -/
structure Q1 (W w : World) (p g bd : Nat) (S : St) (E : List (Nat × Obj)) : Prop where
  ex : ∃ x, x.p = p ∧ x.g = g ∧ x.st = S ∧ Pd W.heap.size w x ∧ Good bd x ∧ ∀ y ∈ E, w.heap[y.1]? = some y.2 ∧ ¬ x.ft y.1
  bel : Below W.heap.size W w

section
variable {W w w' : World} {p g bd : Nat} {S S' : St} {E : List (Nat × Obj)}

theorem Q1.mono {c : Nat} (h : Q1 W w p g bd S E) (hc : bd ≤ c) : Q1 W w p g c S E := by
  obtain ⟨x, e1, e2, e3, e4, e5, e6⟩ := h.ex
  exact ⟨⟨x, e1, e2, e3, e4, e5.mono hc, e6⟩, h.bel⟩
theorem Q1.ok (h : Q1 W w p g bd S E) : OkS bd S := by
  obtain ⟨x, e1, e2, rfl, e4, e5, e6⟩ := h.ex
  exact e5.ok
theorem Q1.below (h : Q1 W w p g bd S E) (hb : Below w.heap.size w w') : Q1 W w' p g bd S E := by
  obtain ⟨x, e1, e2, e3, e4, e5, e6⟩ := h.ex
  exact ⟨⟨x, e1, e2, e3, e4.below hb, e5, fun y hy => ⟨(hb.block _ (lt_of_some (e6 y hy).1)).trans (e6 y hy).1, (e6 y hy).2⟩⟩, below2 h.bel hb⟩
theorem Q1.drew (h : Q1 W w p g bd S E) : Q1 W w.drew p g bd S E := h.below (below_drew w)
theorem Q1.less {F : List (Nat × Obj)} (h : Q1 W w p g bd S E) (hs : ∀ y ∈ F, y ∈ E) : Q1 W w p g bd S F := by
  obtain ⟨x, e1, e2, e3, e4, e5, e6⟩ := h.ex
  exact ⟨⟨x, e1, e2, e3, e4, e5, fun y hy => e6 y (hs y hy)⟩, h.bel⟩
theorem Q1.alloc (h : Q1 W w p g bd S E) (o : Obj) : Q1 W (w.alloc o) p g bd S ((w.heap.size, o) :: E) := by
  obtain ⟨x, e1, e2, e3, e4, e5, e6⟩ := (h.below (below_alloc1 w o)).ex
  obtain ⟨x0, a1, a2, a3, a4, a5, a6⟩ := h.ex
  refine ⟨⟨x0, a1, a2, a3, a4.below (below_alloc1 w o), a5, fun y hy => ?_⟩, below2 h.bel (below_alloc1 w o)⟩
  rcases List.mem_cons.1 hy with rfl | q
  · exact ⟨heap_alloc_new _ _, fun f => by have := a4.lt f; simp at this⟩
  · exact ⟨((below_alloc1 w o).block _ (lt_of_some (a6 y q).1)).trans (a6 y q).1, (a6 y q).2⟩
theorem Q1.at (h : Q1 W w p g bd S E) {k : Nat} {o : Obj} (hk : (k, o) ∈ E) : w.heap[k]? = some o := by
  obtain ⟨x, e1, e2, e3, e4, e5, e6⟩ := h.ex
  exact (e6 _ hk).1
/-- A block of others is changed. -/
theorem Q1.set {k : Nat} {o o' : Obj} (h : Q1 W w p g bd S ((k, o) :: E)) (hk : W.heap.size ≤ k) (hne : ∀ y ∈ E, y.1 ≠ k) (hf : Fr (fun j => j = k) w w') (ho : w'.heap[k]? = some o') : Q1 W w' p g bd S ((k, o') :: E) := by
  obtain ⟨x, e1, e2, e3, e4, e5, e6⟩ := h.ex
  have hkn := (e6 (k, o) (by simp)).2
  refine ⟨⟨x, e1, e2, e3, e4.kept (fun j hj => hf.block j (e4.lt hj) (fun z => hkn (z ▸ hj))), e5, fun y hy => ?_⟩, hf.below h.bel h.bel.size (fun j e => by rw [e]; exact hk)⟩
  rcases List.mem_cons.1 hy with rfl | q
  · exact ⟨ho, hkn⟩
  · have := e6 y (List.mem_cons_of_mem _ q)
    exact ⟨(hf.block _ (lt_of_some this.1) (hne y q)).trans this.1, this.2⟩

theorem Q1.step {x x' : PX} {bd' : Nat} (e1 : x.p = p) (e2 : x.g = g) (e4 : Pd W.heap.size w x) (e6 : ∀ y ∈ E, w.heap[y.1]? = some y.2 ∧ ¬ x.ft y.1) (hb : Below W.heap.size W w) (t : PTo W.heap.size w x x' w') (hs : x'.st = S') (hg : Good bd' x') : Q1 W w' p g bd' S' E :=
  ⟨⟨x', t.p.trans e1, t.g.trans e2, hs, t.pd, hg, fun y hy => ⟨(t.fr.block _ (lt_of_some (e6 y hy).1) (e6 y hy).2).trans (e6 y hy).1, fun f => (t.new _ f).elim (e6 y hy).2 (fun q => by have := lt_of_some (e6 y hy).1; omega)⟩⟩, t.bel e4 hb (Nat.le_refl _)⟩

theorem Q1.pin (h : Q1 W w p g bd S E) (hbd : bd ≤ 8000000) (a : Int) : Calls Tryz.prog 83 #[.pointer (some ⟨p, 0, none⟩), .int .i64 a] w fun e w' => e = .returned (.tuple #[.string (pinS S a).1.1, .int .i64 (pinS S a).1.2]) ∧ Q1 W w' p g (bd + 2) (pinS S a).2 E := by
  obtain ⟨x, rfl, e2, rfl, e4, e5, e6⟩ := h.ex
  refine (pin_any e4 e5 (by omega) h.bel.size a).mono ?_
  rintro e w' ⟨rfl, x', t, hs, hg⟩
  exact ⟨rfl, Q1.step rfl e2 e4 e6 h.bel t hs hg⟩
theorem Q1.setp (h : Q1 W w p g bd S E) (hbd : bd ≤ 8000000) (a : Int) (s : ByteArray) : Calls Tryz.prog 147 #[.pointer (some ⟨p, 0, none⟩), .int .i64 a, .string s] w fun e w' => e = .returned (.int .i64 (setS S a s).1) ∧ Q1 W w' p g (bd + 1) (setS S a s).2 E := by
  obtain ⟨x, rfl, e2, rfl, e4, e5, e6⟩ := h.ex
  refine (set_any e4 e5 (by omega) h.bel.size a s).mono ?_
  rintro e w' ⟨rfl, x', t, hs, hg⟩
  exact ⟨rfl, Q1.step rfl e2 e4 e6 h.bel t hs hg⟩
theorem Q1.unpin (h : Q1 W w p g bd S E) (hbd : bd ≤ 8000000) (a : Int) : Calls Tryz.prog 84 #[.pointer (some ⟨p, 0, none⟩), .int .i64 a] w fun e w' => e = .returned (.int .i64 (unpinS S a).1) ∧ Q1 W w' p g (bd + 1) (unpinS S a).2 E := by
  obtain ⟨x, rfl, e2, rfl, e4, e5, e6⟩ := h.ex
  refine (unpin_any e4 e5 (by omega) h.bel.size a).mono ?_
  rintro e w' ⟨rfl, x', t, hs, hg⟩
  exact ⟨rfl, Q1.step rfl e2 e4 e6 h.bel t hs hg⟩
theorem Q1.evict (h : Q1 W w p g bd S E) (hbd : bd ≤ 8000000) (n : Int) (h1 : -9223372036854775808 ≤ n) (h2 : n ≤ 9223372036854775807) : Calls Tryz.prog 17 #[.pointer (some ⟨p, 0, none⟩), .int .i64 n] w fun e w' => e = .returned (.int .i64 (evictS S n).1) ∧ Q1 W w' p g (bd + 1) (evictS S n).2 E := by
  obtain ⟨x, rfl, e2, rfl, e4, e5, e6⟩ := h.ex
  refine (evict_any e4 e5 (by omega) h.bel.size n h1 h2).mono ?_
  rintro e w' ⟨rfl, x', t, hs, hg⟩
  exact ⟨rfl, Q1.step rfl e2 e4 e6 h.bel t hs hg⟩
theorem Q1.flush (h : Q1 W w p g bd S E) (hbd : bd ≤ 8000000) : Calls Tryz.prog 21 #[.pointer (some ⟨p, 0, none⟩)] w fun e w' => e = .returned (.int .i64 (flushS S).1) ∧ Q1 W w' p g (bd + 66) (flushS S).2 E := by
  obtain ⟨x, rfl, e2, rfl, e4, e5, e6⟩ := h.ex
  refine (flush_any e4 e5 (by omega) h.bel.size).mono ?_
  rintro e w' ⟨rfl, x', t, hs, hg⟩
  exact ⟨rfl, Q1.step rfl e2 e4 e6 h.bel t hs hg⟩
theorem Q1.dirty (h : Q1 W w p g bd S E) : Calls Tryz.prog 46 #[.pointer (some ⟨p, 0, none⟩)] w fun e w' => ∃ v, e = .returned v ∧ IRow w' w.heap.size v (dirtyS S) ∧ Below w.heap.size w w' := by
  obtain ⟨x, rfl, e2, rfl, e4, e5, e6⟩ := h.ex
  exact dirty_all e4 e5
theorem Q1.readUp (h : Q1 W w p g bd S E) (i : Nat) (hi : i < S.D.n) (hl : S.D.left ≠ 0) : Calls Tryz.prog 146 #[.pointer (some ⟨g, 0, none⟩), .int .i64 (i : Int)] w fun e w' => e = .returned (.tuple #[.string (S.D.seen i), .int .i64 0]) ∧ Q1 W w' p g bd S E := by
  have h0 := h
  obtain ⟨x, rfl, rfl, rfl, e4, e5, e6⟩ := h.ex
  refine ((dev_read bd x.D e5.ok.inv i hi).2 hl _ w x.g x.gs x.dv e4.dev).mono ?_
  rintro e w' ⟨rfl, hb⟩
  exact ⟨rfl, h0.below hb⟩

theorem q1_new {n : Nat} (hn1 : 1 ≤ n) (hn2 : n ≤ 64) {gs : Nat} {dv : Value} {D : DS} (hd : Dev W.heap.size w g gs dv D) (hI : Inv bd D) (hb : Below W.heap.size W w) :
    Calls Tryz.prog 23 #[.pointer (some ⟨g, 0, none⟩), .int .i64 (n : Int)] w fun e w' => ∃ p, e = .returned (.tuple #[.pointer (some ⟨p, 0, none⟩), .int .i64 0]) ∧ Q1 W w' p g bd ⟨n, [], 0, 0, D⟩ [] := by
  refine (new_pool g gs n dv D bd hn1 hn2 hd hI hb.size).mono ?_
  rintro e w' ⟨x, rfl, e4, e5, e3, e2, _, hb'⟩
  exact ⟨x.p, rfl, ⟨x, rfl, e2, e3, e4, e5, fun y hy => by cases hy⟩, below2 hb hb'⟩
end
end Go.Proofs.YtkjioabhdglkpaaGreat

/- How a log lies in memory. -/
import Derived.Test.YtlapgalefpenbaaLText
namespace Go.Proofs.Ytlapgalefpenbaa
open Go.RowKit

/-- A row of texts, wherever in its block it begins. -/
def Row (w : World) (B : Nat) (rv : Value) (L : List ByteArray) : Prop :=
  (rv = .slice none 0 0 ∧ L = []) ∨ ∃ b o cap cur, rv = .slice (some ⟨b, o, none⟩) L.length cap ∧ B ≤ b ∧ w.heap[b]? = some (.cells cur 9 (0, 0)) ∧ L.length ≤ cap ∧ o + cap ≤ cur.size ∧ cap ≤ maxLen ∧ ∀ i x, L[i]? = some x → cur[o + i]? = some (.string x)

/-- The blocks of a log. -/
def footL (lb g gs : Nat) (hv rv : Value) (k : Nat) : Prop := k = lb ∨ foot g gs hv k ∨ rv.ownBlock = some k

/-- A log in memory, its blocks from B on. -/
structure Lg (B : Nat) (w : World) (lb g gs : Nat) (hv rv : Value) (D : DS) (S : LS) : Prop where
  dev : Dev B w g gs hv D
  log : w.heap[lb]? = some (.cells (lcells g rv S) 81 (0, 0))
  row : Row w B rv S.recs
  lB : B ≤ lb
  ln : ¬ foot g gs hv lb
  rn : ∀ k, rv.ownBlock = some k → k ≠ lb ∧ ¬ foot g gs hv k

/-- What a call makes of a log. -/
def LTo (B : Nat) (w : World) (lb g gs : Nat) (hv rv : Value) (D' : DS) (S' : LS) (w' : World) : Prop :=
  ∃ hv' rv', Lg B w' lb g gs hv' rv' D' S' ∧ Fr (footL lb g gs hv rv) w w' ∧ ∀ k, footL lb g gs hv' rv' k → footL lb g gs hv rv k ∨ w.heap.size ≤ k

section
variable {B : Nat} {w w' : World} {lb g gs : Nat} {hv rv : Value} {D D' : DS} {S : LS}

theorem Row.blk {L : List ByteArray} (h : Row w B rv L) {k : Nat} (hk : rv.ownBlock = some k) : B ≤ k ∧ k < w.heap.size := by
  rcases h with ⟨rfl, _⟩ | ⟨b, o, cap, cur, rfl, h1, h2, _⟩
  · cases hk
  · cases hk
    exact ⟨h1, (Array.getElem?_eq_some_iff.1 h2).1⟩

theorem Row.kept {L : List ByteArray} (h : Row w B rv L) (hk : ∀ k, rv.ownBlock = some k → w'.heap[k]? = w.heap[k]?) : Row w' B rv L := by
  rcases h with h | ⟨b, o, cap, cur, rfl, h1, h2, r⟩
  · exact Or.inl h
  · exact Or.inr ⟨b, o, cap, cur, rfl, h1, (hk b rfl).trans h2, r⟩

theorem Lg.lt (h : Lg B w lb g gs hv rv D S) : ∀ k, footL lb g gs hv rv k → k < w.heap.size := by
  rintro k (rfl | r | r)
  · exact (Array.getElem?_eq_some_iff.1 h.log).1
  · exact h.dev.lt k r
  · exact (h.row.blk r).2
theorem Lg.from (h : Lg B w lb g gs hv rv D S) : ∀ k, footL lb g gs hv rv k → B ≤ k := by
  rintro k (rfl | r | r)
  · exact h.lB
  · exact h.dev.from k r
  · exact (h.row.blk r).1
theorem Lg.kept (h : Lg B w lb g gs hv rv D S) (hk : ∀ k, footL lb g gs hv rv k → w'.heap[k]? = w.heap[k]?) : Lg B w' lb g gs hv rv D S :=
  ⟨h.dev.kept (fun k r => hk k (Or.inr (Or.inl r))), (hk lb (Or.inl rfl)).trans h.log, h.row.kept (fun k r => hk k (Or.inr (Or.inr r))), h.lB, h.ln, h.rn⟩
theorem Lg.below (h : Lg B w lb g gs hv rv D S) (hb : Below w.heap.size w w') : Lg B w' lb g gs hv rv D S := h.kept (fun k hk => hb.block k (h.lt k hk))
theorem Lg.free (h : Lg B w lb g gs hv rv D S) (o : Nat) : w.frozen? ⟨lb, o, none⟩ = false := frozen_of_row w lb o _ _ h.log

theorem LTo.same (h : Lg B w lb g gs hv rv D S) : LTo B w lb g gs hv rv D S w := ⟨hv, rv, h, Fr.refl _ _, fun _ e => Or.inl e⟩
theorem LTo.pre {w0 : World} (hb : Below w0.heap.size w0 w) (z : LTo B w lb g gs hv rv D S w') : LTo B w0 lb g gs hv rv D S w' := by
  obtain ⟨hv', rv', d', f, gr⟩ := z
  exact ⟨hv', rv', d', (Fr.of_below hb).trans f (fun _ _ x => x), fun k e => (gr k e).imp id (fun h => Nat.le_trans hb.size h)⟩
theorem LTo.post {w2 : World} (z : LTo B w lb g gs hv rv D S w') (hb : Below w'.heap.size w' w2) : LTo B w lb g gs hv rv D S w2 := by
  obtain ⟨hv', rv', d', f, gr⟩ := z
  exact ⟨hv', rv', d'.below hb, f.trans (Fr.of_below (F := footL lb g gs hv rv) hb) (fun _ _ x => x), gr⟩

theorem not_footL {hv1 rv1 : Value} (gr : ∀ k, footL lb g gs hv1 rv1 k → footL lb g gs hv rv k ∨ w.heap.size ≤ k) {k : Nat} (hk : k < w.heap.size) (hn : ¬ footL lb g gs hv rv k) : ¬ footL lb g gs hv1 rv1 k := by
  intro r
  rcases gr k r with q | q
  · exact hn q
  · omega

theorem LTo.after {w1 w2 : World} {hv1 rv1 : Value} {D2 : DS} {S2 : LS} (f : Fr (footL lb g gs hv rv) w w1) (gr : ∀ k, footL lb g gs hv1 rv1 k → footL lb g gs hv rv k ∨ w.heap.size ≤ k) (z : LTo B w1 lb g gs hv1 rv1 D2 S2 w2) : LTo B w lb g gs hv rv D2 S2 w2 := by
  obtain ⟨hv2, rv2, d2, f2, gr2⟩ := z
  refine ⟨hv2, rv2, d2, f.trans f2 (fun i hi h => ?_), fun k e => ?_⟩
  · rcases gr i h with q | q
    · exact q
    · omega
  · rcases gr2 k e with q | q
    · exact gr k q
    · exact Or.inr (Nat.le_trans f.size q)

/-- What the device does, the log about it. -/
theorem Lg.did' (h : Lg B w lb g gs hv rv D S) (z : DTo B w g gs hv D' w') : ∃ hv', Lg B w' lb g gs hv' rv D' S ∧ Fr (footL lb g gs hv rv) w w' ∧ ∀ k, footL lb g gs hv' rv k → footL lb g gs hv rv k ∨ w.heap.size ≤ k := by
  obtain ⟨hv', d', f, gr⟩ := z
  have hnew : ∀ k, foot g gs hv' k → foot g gs hv k ∨ w.heap.size ≤ k := by
    rintro k (r | r | r)
    · exact Or.inl (Or.inl r)
    · exact Or.inl (Or.inr (Or.inl r))
    · rcases gr k r with q | q
      · exact Or.inl (Or.inr (Or.inr q))
      · exact Or.inr q
  have hlt := h.lt lb (Or.inl rfl)
  refine ⟨hv', ⟨d', (f.block lb hlt h.ln).trans h.log, h.row.kept (fun k r => f.block k (h.row.blk r).2 (h.rn k r).2), h.lB, not_foot gr hlt h.ln, fun k r => ⟨(h.rn k r).1, not_foot gr (h.row.blk r).2 (h.rn k r).2⟩⟩, ?_, ?_⟩
  · exact ⟨f.os, f.tape, f.output, f.size, fun k hk hF => f.block k hk (fun r => hF (Or.inr (Or.inl r)))⟩
  · rintro k (r | r | r)
    · exact Or.inl (Or.inl r)
    · rcases hnew k r with q | q
      · exact Or.inl (Or.inr (Or.inl q))
      · exact Or.inr q
    · exact Or.inl (Or.inr (Or.inr r))

theorem Lg.did (h : Lg B w lb g gs hv rv D S) (z : DTo B w g gs hv D' w') : LTo B w lb g gs hv rv D' S w' := by
  obtain ⟨hv', a, b, c⟩ := h.did' z
  exact ⟨hv', rv, a, b, c⟩

/-- One of the log's own cells, turned. -/
theorem Lg.put (h : Lg B w lb g gs hv rv D S) (o : Nat) (u : Value) (S' : LS) (hS : (lcells g rv S).setIfInBounds o u = lcells g rv S') (hr : S'.recs = S.recs) : Lg B (w.setCell ⟨lb, o, none⟩ u) lb g gs hv rv D S' := by
  have hb : ∀ k, k ≠ lb → (w.setCell ⟨lb, o, none⟩ u).heap[k]? = w.heap[k]? := fun k hk => Below.heap_setCell _ _ _ _ hk
  refine ⟨h.dev.kept (fun k r => hb k (by rintro rfl; exact h.ln r)), ?_, ?_, h.lB, h.ln, h.rn⟩
  · rw [← hS]
    exact heap_setCell_same w lb o _ _ u h.log
  · rw [hr]
    exact h.row.kept (fun k r => hb k (h.rn k r).1)
theorem Lg.putTo (h : Lg B w lb g gs hv rv D S) (o : Nat) (u : Value) (S' : LS) (hS : (lcells g rv S).setIfInBounds o u = lcells g rv S') (hr : S'.recs = S.recs) : LTo B w lb g gs hv rv D S' (w.setCell ⟨lb, o, none⟩ u) :=
  ⟨hv, rv, h.put o u S' hS hr, (Fr.refl _ _).set (Or.inl (Or.inl rfl)) u, fun _ e => Or.inl e⟩
theorem Lg.unfit (h : Lg B w lb g gs hv rv D S) : Lg B (w.setCell ⟨lb, 6, none⟩ (.bool true)) lb g gs hv rv D { S with unfit := true } := h.put 6 _ _ rfl rfl
/-- A store beside the log. -/
theorem Lg.aside (h : Lg B w lb g gs hv rv D S) {k : Nat} (hk : ¬ footL lb g gs hv rv k) (o : Nat) (u : Value) : Lg B (w.setCell ⟨k, o, none⟩ u) lb g gs hv rv D S :=
  h.kept (fun j hj => Below.heap_setCell _ _ _ _ (by rintro rfl; exact hk hj))
end

end Go.Proofs.Ytlapgalefpenbaa

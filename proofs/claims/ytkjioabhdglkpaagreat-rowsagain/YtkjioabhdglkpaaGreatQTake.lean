/- A take in a region that draws its order, its slot written out. -/
import Derived.Test.YtkjioabhdglkpaaGreatQUse
import Derived.Deep.RegionHeld3
namespace Go.Proofs.YtkjioabhdglkpaaGreat
open Go.RowKit

theorem takeD {P : Program} {md : Region.Mode} {ops : Array Oper} {Q : Exit → Act → World → Prop} {S : World → Prop} (i d : Nat) {oi : Oper} {v : Value} {fuel : Nat} {listed : Array Bool} {ts : Array Value} {df : List Deferred} {w : World} (hi : ops[i]? = some oi) (hd : oi.dst = some d)
    (hs : Region.noSelect ops = true) (hf : Region.free md ops listed i = true) (hr : (Region.ready md ops listed).contains i = true)
    (hQ : ∀ c a w, Q (.panic c) (a.put (some d) v) w → Q (.panic c) a w) (hy : YieldsIf P ops S oi v ⟨ts, df⟩) (hS : S w)
    (h : wpAnyH P md ops Q S fuel (listed.setIfInBounds i true) ⟨ts.setIfInBounds d v, df⟩ w) : wpAnyH P md ops Q S (fuel + 1) listed ⟨ts, df⟩ w := by
  refine wpAnyH_take hi hs hf hr (by rw [hd]; exact hQ) hy hS ?_
  rw [hd]
  exact h

theorem below_drew (w : World) : Below w.heap.size w w.drew := (Below.refl _ w).drew
theorem fobj_set0 {w : World} {b : Nat} {f : Fm} (h : w.heap[b]? = some (fobj f)) (k : Nat) : (w.setCell ⟨b, 0, none⟩ (.int .i64 (k : Int))).heap[b]? = some (fobj { f with pg := k }) := by simpa [fobj] using heap_setCell_same w b 0 _ _ (.int .i64 (k : Int)) h
theorem fobj_set1 {w : World} {b : Nat} {f : Fm} (h : w.heap[b]? = some (fobj f)) (t : ByteArray) : (w.setCell ⟨b, 1, none⟩ (.string t)).heap[b]? = some (fobj { f with s := t }) := by simpa [fobj] using heap_setCell_same w b 1 _ _ (.string t) h
theorem fobj_set2 {w : World} {b : Nat} {f : Fm} (h : w.heap[b]? = some (fobj f)) (k : Nat) : (w.setCell ⟨b, 2, none⟩ (.int .i64 (k : Int))).heap[b]? = some (fobj { f with pins := k }) := by simpa [fobj] using heap_setCell_same w b 2 _ _ (.int .i64 (k : Int)) h
theorem fobj_set3 {w : World} {b : Nat} {f : Fm} (h : w.heap[b]? = some (fobj f)) (d : Bool) : (w.setCell ⟨b, 3, none⟩ (.bool d)).heap[b]? = some (fobj { f with dirty := d }) := by simpa [fobj] using heap_setCell_same w b 3 _ _ (.bool d) h
theorem fr_set (w : World) (b o : Nat) (u : Value) : Fr (fun k => k = b) w (w.setCell ⟨b, o, none⟩ u) := Fr.set (F := fun k => k = b) (Fr.refl _ _) (p := ⟨b, o, none⟩) (Or.inl rfl) _
theorem set_self {α : Type} {l : List α} {i : Nat} {y : α} (h : l[i]? = some y) : l.set i y = l := by
  apply List.ext_getElem?
  intro j
  rw [List.getElem?_set]
  split
  · rename_i e
    subst e
    have := (List.getElem?_eq_some_iff.1 h).1
    rw [if_pos this, h]
  · rfl

end Go.Proofs.YtkjioabhdglkpaaGreat

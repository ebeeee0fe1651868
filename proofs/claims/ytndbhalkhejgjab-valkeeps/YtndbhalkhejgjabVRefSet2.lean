/- The contract of the document's Set; Get and Set of any list. -/
import Derived.Test.YtndbhalkhejgjabVRefSet
namespace Go.Proofs.Ytndbhalkhejgjab
open Go.RowKit

/-- What stands while the document's Set goes over a list. -/
structure RefAt (w wr : World) (box : Obj) (v : Value) (A : List Pr) : Prop where
  own : wr.ownsRow (w.heap.size + 1) 37 4 v A.length (cellsL A)
  bel : Below (w.heap.size + 1) (w.alloc box) wr
  size : w.heap.size + 1 ≤ wr.heap.size

theorem RefAt.push {w wr w1 : World} {box o : Obj} {v v1 : Value} {p : Pr} {A : List Pr} (h : RefAt w wr box v A) (hg : (wr.alloc o).grownBy w1 v.ownBlock)
    (ho : w1.ownsRow (w.heap.size + 1) 37 4 v1 (A.length + 1) (cellsL A ++ p.cells)) : RefAt w w1 box v1 (A ++ [p]) := by
  refine ⟨?_, (h.bel.alloc h.size o).grown hg (by have := h.size; simp; omega) (fun k hk => (h.own.lt k hk).1), by have := h.size; have := hg.size; simp at this; omega⟩
  rw [cellsL_append, cellsL_one]
  simpa using ho

theorem RefAt.root {w wr : World} {box : Obj} {v : Value} {A : List Pr} (h : RefAt w wr box v A) : Below w.heap.size w wr := (below_alloc1 w box).trans (h.bel.mono (by omega))

theorem RefAt.box {w wr : World} {v : Value} {A : List Pr} {k n : Int} {s : ByteArray} {t : TypeId} (h : RefAt w wr (.cells #[.int .i64 k, .int .i64 n, .string s] t) v A) :
    wr.cell? ⟨w.heap.size, 0, none⟩ = some (.int .i64 k) ∧ wr.cell? ⟨w.heap.size, 1, none⟩ = some (.int .i64 n) ∧ wr.cell? ⟨w.heap.size, 2, none⟩ = some (.string s) := by
  have b0 := h.bel.cell (p := ⟨w.heap.size, 0, none⟩) (by simp)
  have b1 := h.bel.cell (p := ⟨w.heap.size, 1, none⟩) (by simp)
  have b2 := h.bel.cell (p := ⟨w.heap.size, 2, none⟩) (by simp)
  simp at b0 b1 b2
  exact ⟨b0, b1, b2⟩

/-- Cells that came in stay while the row grows. -/
theorem keep4 {w wr w3 : World} {box o : Obj} {v : Value} {A : List Pr} {b j : Nat} {x0 x1 x2 x3 : Value} (hat : RefAt w wr box v A) (hg : (wr.alloc o).grownBy w3 v.ownBlock) (hb : b < w.heap.size) (hbw : b < wr.heap.size)
    (e0 : wr.cell? ⟨b, j, none⟩ = some x0) (e1 : wr.cell? ⟨b, j + 1, none⟩ = some x1) (e2 : wr.cell? ⟨b, j + 2, none⟩ = some x2) (e3 : wr.cell? ⟨b, j + 3, none⟩ = some x3) :
    w3.cell? ⟨b, j, none⟩ = some x0 ∧ w3.cell? ⟨b, j + 1, none⟩ = some x1 ∧ w3.cell? ⟨b, j + 2, none⟩ = some x2 ∧ w3.cell? ⟨b, j + 3, none⟩ = some x3 := by
  have hbl : w3.heap[b]? = (wr.alloc o).heap[b]? := hg.block b (by simp; omega) (fun h => by have := (hat.own.lt b h.symm).1; omega)
  have hc : ∀ i, w3.cell? ⟨b, i, none⟩ = wr.cell? ⟨b, i, none⟩ := fun i => (World.cell?_of_block (w := wr.alloc o) hbl).trans (alloc_cell hbw)
  exact ⟨(hc _).trans e0, (hc _).trans e1, (hc _).trans e2, (hc _).trans e3⟩

end Go.Proofs.Ytndbhalkhejgjab

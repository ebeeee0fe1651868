/- Rows of bytes that a call owns. -/
import Derived.Test.YtijpnlomfodihaaDoorKVals
import Derived.Test.YtijpnlomfodihaaDoorKPut
namespace Go.Proofs.YtijpnlomfodihaaDoor
open Go.RowKit

/-- A row of bytes that the call owns, beside what was there. -/
structure BRow (w wr : World) (v : Value) (l : List UInt8) : Prop where
  own : wr.ownsRow w.heap.size 5 1 v l.length (Lib.byteCells l)
  root : Below w.heap.size w wr

theorem BRow.below {w wr w1 : World} {v : Value} {l : List UInt8} (h : BRow w wr v l) (hb : Below wr.heap.size wr w1) : BRow w w1 v l := ⟨owns_below h.own hb, below2 h.root hb⟩
theorem BRow.alloc {w wr : World} {v : Value} {l : List UInt8} (h : BRow w wr v l) (o : Obj) : BRow w (wr.alloc o) v l := h.below (below_alloc1 wr o)

theorem BRow.nil (w : World) : BRow w w (.slice none 0 0) [] := ⟨World.ownsRow_nil _ _ _ _, Below.refl _ _⟩

theorem BRow.one (w : World) (c : UInt8) (x : Int) (hx : x = (c.toNat : Int)) : BRow w (w.alloc (.cells #[.int .u8 x] 5)) (.slice (some ⟨w.heap.size, 0, none⟩) 1 1) [c] := by
  subst hx
  refine ⟨⟨rfl, Or.inr ⟨w.heap.size, 1, _, rfl, Nat.le_refl _, heap_alloc_new w _, Nat.le_refl _, by unfold maxLen; omega, rfl, rfl⟩⟩, below_alloc1 _ _⟩

theorem byteCells_one (l : List UInt8) : ∀ u ∈ Lib.byteCells l, u.oneCell' = true := by
  intro u hu
  simp only [Lib.byteCells, List.mem_map] at hu
  obtain ⟨b, _, rfl⟩ := hu
  rfl

/-- append of bytes to a row of them that the call owns. -/
theorem wpList_append_bytes {ops : Array Oper} {rest : List Oper} {o : Oper} {act : Act} {Q : Exit → Act → World → Prop} (hgd : o.guard = none) (s x : Operand)
    (ho : o.op = .call { callee := .builtin .append, args := #[s, x], argTypes := #[46, 46] })
    (w0 w : World) (v : Value) (A B : List UInt8) (hs : act.eval s = v) (hv : BRow w0 w v A) (ad : Addr) (cb n : Nat) (hn : n = B.length) (hx : act.eval x = .slice (some ad) n cb)
    (hc : ∀ j u, (Lib.byteCells B)[j]? = some u → w.cell? (ad.add j) = some u) (hl : A.length + B.length ≤ 100000000)
    (h : ∀ v' w', BRow w0 w' v' (A ++ B) → wpList Tryd.prog ops Q rest (act.put o.dst v') w') : wpList Tryd.prog ops Q (o :: rest) act w := by
  subst hn
  obtain ⟨i0, hi, hz0, hz1, hz2⟩ := info_parts Tryd.info5
  refine wpList_append_own w hgd s x 46 ho w0.heap.size 5 i0 (.int .u8 0) 1 1 Tryd.underlying46 hi hz0 hz1 hz2 rfl (by decide) v A.length (Lib.byteCells A) hs hv.own ad B.length cb (Lib.byteCells B) hx (by rw [Lib.byteCells_length, Nat.mul_one]) hc (byteCells_one B) (by unfold maxLen; omega) (by omega) hv.root.size ?_
  intro v8 w8 hown8 hgrow8 _
  refine h _ _ ⟨?_, hv.root.grown hgrow8 hv.root.size (fun k hk => (hv.own.lt k hk).1)⟩
  rw [Lib.byteCells_append, List.length_append]
  exact hown8

theorem newB1 {w : World} {c : UInt8} {x : Int} {H : Nat} (hH : w.heap.size = H) (hx : x = (c.toNat : Int)) : ∀ j u, (Lib.byteCells [c])[j]? = some u → (w.alloc (.cells #[.int .u8 x] 5)).cell? ((⟨H, 0, none⟩ : Addr).add j) = some u := by
  subst hH hx
  intro j u h
  match j, h with
  | 0, h => simp [Lib.byteCells] at h; subst h; simp [Addr.add]
  | j + 1, h => simp [Lib.byteCells] at h

theorem newB2 {w : World} {c d : UInt8} {x y : Int} {H : Nat} (hH : w.heap.size = H) (hx : x = (c.toNat : Int)) (hy : y = (d.toNat : Int)) : ∀ j u, (Lib.byteCells [c, d])[j]? = some u → (w.alloc (.cells #[.int .u8 x, .int .u8 y] 5)).cell? ((⟨H, 0, none⟩ : Addr).add j) = some u := by
  subst hH hx hy
  intro j u h
  match j, h with
  | 0, h => simp [Lib.byteCells] at h; subst h; simp [Addr.add]
  | 1, h => simp [Lib.byteCells] at h; subst h; simp [Addr.add]
  | j + 2, h => simp [Lib.byteCells] at h

/-- The cells of a row that a call owns, wherever it lies. -/
theorem BRow.cells {w wr : World} {v : Value} {l : List UInt8} (h : BRow w wr v l) (hl : l ≠ []) : ∃ ad cap, v = .slice (some ad) l.length cap ∧ ∀ j u, (Lib.byteCells l)[j]? = some u → wr.cell? (ad.add j) = some u := by
  have h0 := h.own
  rcases h.own.2 with ⟨_, hn⟩ | ⟨g, cap, cur, rfl, _⟩
  · exact absurd (List.eq_nil_of_length_eq_zero hn) hl
  · exact ⟨_, cap, rfl, h0.cells (g := g) rfl⟩

theorem BRow.text {w wr : World} {v : Value} {l : List UInt8} (h : BRow w wr v l) : (convert 46 9 v).run Tryd.prog wr = .ok (.string (ba l)) wr := by
  have h0 := h.own
  rcases h.own.2 with ⟨rfl, hn⟩ | ⟨g, cap, cur, rfl, _⟩
  · obtain rfl := List.eq_nil_of_length_eq_zero hn
    exact run_convert_bytes_nil (P := Tryd.prog) wr 46 5 Tryd.underlying46 Tryd.underlying5 0 0 9 Tryd.underlying9
  · refine bytes_text wr g cap l ?_
    intro i hi
    have := h0.cells (g := g) rfl i (.int .u8 (l[i].toNat : Int)) (by simp [Lib.byteCells, hi])
    rw [Addr.add_lit, Nat.zero_add] at this
    exact this

theorem BRow.slice {w wr : World} {v : Value} {l : List UInt8} (h : BRow w wr v l) : ∃ a cap, v = .slice a l.length cap := by
  rcases h.own.2 with ⟨rfl, hn⟩ | ⟨g, cap, cur, rfl, _⟩
  · exact ⟨none, 0, by rw [hn]⟩
  · exact ⟨_, cap, rfl⟩

end Go.Proofs.YtijpnlomfodihaaDoor

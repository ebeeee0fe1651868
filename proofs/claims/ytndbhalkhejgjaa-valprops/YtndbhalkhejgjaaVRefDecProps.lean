/- The contract of the document's DecodeProps. -/
import Derived.Test.YtndbhalkhejgjaaVDecProps2
import Derived.Test.YtndbhalkhejgjaaVRefDec2
import Derived.Test.YtndbhalkhejgjaaVPropsR
namespace Go.Proofs.Ytndbhalkhejgjaa
open Go.RowKit
attribute [local go_sem ↓] Go.wp_at_zero Go.wp_at_succ

/-- Three cells of one block, none of them frozen. -/
structure R3 (w : World) (b : Nat) (x0 x1 x2 : Value) : Prop where
  c0 : w.cell? ⟨b, 0, none⟩ = some x0
  c1 : w.cell? ⟨b, 1, none⟩ = some x1
  c2 : w.cell? ⟨b, 2, none⟩ = some x2
  f0 : w.frozen? ⟨b, 0, none⟩ = false
  f1 : w.frozen? ⟨b, 1, none⟩ = false
  f2 : w.frozen? ⟨b, 2, none⟩ = false

theorem R3.new (w : World) (x0 x1 x2 : Value) (t : TypeId) {H : Nat} (hH : w.heap.size = H) : R3 (w.alloc (.cells #[x0, x1, x2] t)) H x0 x1 x2 := by
  subst hH
  refine ⟨?_, ?_, ?_, ?_, ?_, ?_⟩ <;> simp

theorem R3.kept {w w' : World} {B b : Nat} {x0 x1 x2 : Value} (h : R3 w b x0 x1 x2) (hb : Below B w w') (hB : b < B) : R3 w' b x0 x1 x2 :=
  ⟨(hb.cell (p := ⟨b, 0, none⟩) hB).trans h.c0, (hb.cell (p := ⟨b, 1, none⟩) hB).trans h.c1, (hb.cell (p := ⟨b, 2, none⟩) hB).trans h.c2,
    (hb.frozen (p := ⟨b, 0, none⟩) hB).trans h.f0, (hb.frozen (p := ⟨b, 1, none⟩) hB).trans h.f1, (hb.frozen (p := ⟨b, 2, none⟩) hB).trans h.f2⟩

theorem below_put3 {w w1 : World} (h : Below w.heap.size w w1) (a b c : Value) :
    Below w.heap.size w (((w1.setCell ⟨w.heap.size, 0, none⟩ a).setCell ⟨w.heap.size, 1, none⟩ b).setCell ⟨w.heap.size, 2, none⟩ c) :=
  ((h.setCell (p := ⟨w.heap.size, 0, none⟩) (Nat.le_refl _) a).setCell (p := ⟨w.heap.size, 1, none⟩) (Nat.le_refl _) b).setCell (p := ⟨w.heap.size, 2, none⟩) (Nat.le_refl _) c

theorem below_put3a {w w1 : World} (h : Below w.heap.size w w1) (a b c : Value) (o : Obj) :
    Below w.heap.size w ((((w1.setCell ⟨w.heap.size, 0, none⟩ a).setCell ⟨w.heap.size, 1, none⟩ b).setCell ⟨w.heap.size, 2, none⟩ c).alloc o) :=
  (below_put3 h a b c).alloc (below_put3 h a b c).size o

/-- What the document's DecodeProps answers. -/
def GotA (w w' : World) (e : Ending) (d : List Pr × Nat × Bool) : Prop := ∃ a cap, e = .returned (.agg #[.slice a d.1.length cap, .int .i64 (d.2.1 : Int), .bool d.2.2]) ∧ Sl w' a d.1 ∧ Below w.heap.size w w'

theorem GotA.no {w w' : World} (h : Below w.heap.size w w') : GotA w w' (.returned (.agg #[.slice none 0 0, .int .i64 0, .bool false])) ([], 0, false) := ⟨none, 0, rfl, Or.inl rfl, h⟩

set_option maxHeartbeats 800000 in
set_option maxRecDepth 100000 in
theorem refDecodeProps_no (s : ByteArray) (p : Int) (w : World) (hs : s.size ≤ 281474976710656) (h : ¬ ((getAt s.data.toList p).2.2 = true ∧ (getAt s.data.toList p).1 ≤ 8)) :
    Calls Try.prog 27 #[.string s, .int .i64 p] w fun e w' => GotA w w' e ([], 0, false) := by
  have cG := fun w => refGet_any s p w hs
  have hlt := getAt_lt s.data.toList p
  generalize getAt s.data.toList p = g at *
  obtain ⟨N, j, ok⟩ := g
  simp only [gotA] at *
  have hn : ok = true → (8 : Int) < (N : Int) := fun e => by rw [e] at h; simp at h; omega
  clear h
  cases ok with
  | false =>
    clear hn
    go_enter Try.func27, Try.ntmps27
    go_wp2_with fail
    refine (cG _).mono ?_
    rintro e w1 ⟨rfl, hb1⟩
    have hR : R3 w1 w.heap.size (.slice none 0 0) (.int .i64 0) (.bool false) := (R3.new w _ _ _ _ rfl).kept hb1 (by simp)
    have hz1 : w.heap.size < w1.heap.size := by have := hb1.size; simp at this; omega
    obtain ⟨r0, r1, r2, f0, f1, f2⟩ := hR
    go_wp2_with fail
    refine bodyPost_ret (v := .agg #[.slice none 0 0, .int .i64 0, .bool false]) (by simp [results, Try.results27, go_sem, hz1, r0, r1, r2]) rfl (GotA.no ?_)
    exact below_put3a (below2 (below_alloc1 w _) hb1) _ _ _ _
  | true =>
    have hn := hn rfl
    go_enter Try.func27, Try.ntmps27
    go_wp2_with fail
    refine (cG _).mono ?_
    rintro e w1 ⟨rfl, hb1⟩
    have hR : R3 w1 w.heap.size (.slice none 0 0) (.int .i64 0) (.bool false) := (R3.new w _ _ _ _ rfl).kept hb1 (by simp)
    have hz1 : w.heap.size < w1.heap.size := by have := hb1.size; simp at this; omega
    obtain ⟨r0, r1, r2, f0, f1, f2⟩ := hR
    go_wp2_with fail
    refine bodyPost_ret (v := .agg #[.slice none 0 0, .int .i64 0, .bool false]) (by simp [results, Try.results27, go_sem, hz1, r0, r1, r2]) rfl (GotA.no ?_)
    exact below_put3a (below2 (below_alloc1 w _) hb1) _ _ _ _

/-- What stands while the document's DecodeProps goes over bytes. -/
theorem grown_cell {W w3 : World} {v : Value} {b j : Nat} (hg : W.grownBy w3 v.ownBlock) (hb : b < W.heap.size) (hne : v.ownBlock ≠ some b) : w3.cell? ⟨b, j, none⟩ = W.cell? ⟨b, j, none⟩ :=
  World.cell?_of_block (w := W) (hg.block b hb (fun h => hne h.symm))

end Go.Proofs.Ytndbhalkhejgjaa

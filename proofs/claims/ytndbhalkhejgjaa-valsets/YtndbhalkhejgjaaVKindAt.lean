/- The look-up of a kind in the map of kinds: what it leaves. -/
import Derived.Test.YtndbhalkhejgjaaVFits
import Derived.Deep.RegionHeld3
import Derived.Deep.DrawnRows
import Derived.Deep.DeepCutAuto
import Derived.WalkSpells
import Derived.Laws.EntriesVeiled
namespace Go.Proofs.Ytndbhalkhejgjaa
open Go.RowKit
attribute [local go_sem ↓] Go.wp_at_zero Go.wp_at_succ

/-- kinds, said of a world behind it that is a letter. -/
theorem kinds_S (c : Int) (w : World) : Calls Try.prog 37 #[] w fun e w' => ∃ b, e = .returned (.map (some b)) ∧ Below w.heap.size w w' ∧ w.heap.size < w'.heap.size ∧
    ((Instr.lookup 70 (.map (some b)) (.int .i64 c) true).run Try.prog w' = .ok (.tuple #[kindV c, .bool (decide (0 ≤ c) && decide (c ≤ 3))]) w') ∧
    (∀ o, (Instr.lookup 70 (.map (some b)) (.int .i64 c) true).run Try.prog (w'.alloc o) = .ok (.tuple #[kindV c, .bool (decide (0 ≤ c) && decide (c ≤ 3))]) (w'.alloc o)) := by
  refine (kinds_any w).mono ?_
  rintro e w' ⟨rfl, rfl⟩
  have hb := (MapKept.heap_alloc w kindM).1
  refine ⟨w.heap.size, rfl, below_alloc1 _ _, by simp, run_kind _ _ _ hb, fun o => run_kind _ _ _ ?_⟩
  rw [(MapKept.heap_alloc (w.alloc kindM) o).2 w.heap.size (by simp)]
  exact hb

/-- Behind the look-up of a kind: what stands there lies in a block of its own. -/
structure AK (w0 wx : World) (b : Nat) (f0 f1 f2 : Value) : Prop where
  below : Below w0.heap.size w0 wx
  ge : w0.heap.size ≤ b
  lt : b < wx.heap.size
  c0 : wx.cell? ⟨b, 0, none⟩ = some f0
  c1 : wx.cell? ⟨b, 1, none⟩ = some f1
  c2 : wx.cell? ⟨b, 2, none⟩ = some f2

theorem ak_late {w0 w1 : World} {f0 f1 f2 : Value} {t : TypeId} (hb : Below w0.drew.heap.size w0.drew w1) : AK w0 (w1.alloc (.cells #[f0, f1, f2] t)) w1.heap.size f0 f1 f2 := by
  have h : Below w0.heap.size w0 w1 := ((Below.refl _ w0).drew).trans hb
  exact ⟨h.alloc h.size _, h.size, by simp, by simp, by simp, by simp⟩

theorem new_cells (w : World) (g0 g1 g2 : Value) (t : TypeId) : (w.alloc (.cells #[g0, g1, g2] t)).cell? ⟨w.heap.size, 0, none⟩ = some g0 ∧ (w.alloc (.cells #[g0, g1, g2] t)).cell? ⟨w.heap.size, 1, none⟩ = some g1 ∧ (w.alloc (.cells #[g0, g1, g2] t)).cell? ⟨w.heap.size, 2, none⟩ = some g2 := by
  refine ⟨?_, ?_, ?_⟩ <;> simp

theorem set_off (w : World) (B i j : Nat) (v : Value) (h : i ≠ j) : (w.setCell ⟨B, i, none⟩ v).cell? ⟨B, j, none⟩ = w.cell? ⟨B, j, none⟩ := by
  apply World.cell?_setCell_other
  intro e
  cases e
  exact h rfl

theorem ak_early {w0 w1 : World} {f0 f1 f2 g0 g1 g2 : Value} {t : TypeId} {H : Nat} (hH : w0.heap.size = H) (hb : Below (w0.drew.alloc (.cells #[g0, g1, g2] t)).heap.size (w0.drew.alloc (.cells #[g0, g1, g2] t)) w1) :
    AK w0 (((w1.setCell ⟨H, 0, none⟩ f0).setCell ⟨H, 1, none⟩ f1).setCell ⟨H, 2, none⟩ f2) H f0 f1 f2 := by
  subst hH
  have h : Below w0.heap.size w0 w1 := (((Below.refl _ w0).drew).alloc (Nat.le_refl _) _).trans (hb.mono (by simp))
  obtain ⟨n0, n1, n2⟩ := new_cells w0.drew g0 g1 g2 t
  have e0 : w1.cell? ⟨w0.heap.size, 0, none⟩ = some g0 := by rw [hb.cell (p := ⟨w0.heap.size, 0, none⟩) (by simp)]; exact n0
  have e1 : w1.cell? ⟨w0.heap.size, 1, none⟩ = some g1 := by rw [hb.cell (p := ⟨w0.heap.size, 1, none⟩) (by simp)]; exact n1
  have e2 : w1.cell? ⟨w0.heap.size, 2, none⟩ = some g2 := by rw [hb.cell (p := ⟨w0.heap.size, 2, none⟩) (by simp)]; exact n2
  have hz := hb.size
  simp at hz
  have k0 : (w1.setCell ⟨w0.heap.size, 0, none⟩ f0).cell? ⟨w0.heap.size, 0, none⟩ = some f0 := World.cell?_setCell_same _ _ _ e0
  have k1 : ((w1.setCell ⟨w0.heap.size, 0, none⟩ f0).setCell ⟨w0.heap.size, 1, none⟩ f1).cell? ⟨w0.heap.size, 1, none⟩ = some f1 := World.cell?_setCell_same _ _ _ (u := g1) (by rw [set_off _ _ 0 1 _ (by decide)]; exact e1)
  refine ⟨((h.setCell (Nat.le_refl _) _).setCell (Nat.le_refl _) _).setCell (Nat.le_refl _) _, Nat.le_refl _, by simp [World.setCell]; omega, ?_, ?_, ?_⟩
  · rw [set_off _ _ 2 0 _ (by decide), set_off _ _ 1 0 _ (by decide)]; exact k0
  · rw [set_off _ _ 2 1 _ (by decide)]; exact k1
  · exact World.cell?_setCell_same _ _ _ (u := g2) (by rw [set_off _ _ 1 2 _ (by decide), set_off _ _ 0 2 _ (by decide)]; exact e2)

end Go.Proofs.Ytndbhalkhejgjaa

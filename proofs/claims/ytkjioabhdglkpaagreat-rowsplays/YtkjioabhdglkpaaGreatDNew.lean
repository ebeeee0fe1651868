/- New, Read, Write. -/
import Derived.Test.YtkjioabhdglkpaaGreatDRepeat
import Derived.Test.YtkjioabhdglkpaaGreatDSmall
namespace Go.Proofs.YtkjioabhdglkpaaGreat
open Go.RowKit

/-- A new device. -/
def D0 (n : Nat) : DS := { n := n, safe := fun _ => blk 0, seen := fun _ => blk 0, held := [], ops := 0, left := -1, next := 0 }

theorem zeros_blk : (⟨(Lib.repeatL (ByteArray.mk #[0]).data.toList 512).toArray⟩ : ByteArray) = blk 0 := by
  rw [show (ByteArray.mk #[0]).data.toList = List.replicate 1 0 from rfl, Lib.repeatL_replicate]
  rfl

theorem AllZ.secs {w : World} {gs n : Nat} {z : ByteArray} (h : AllZ w gs n n z) : Secs w gs n (fun _ => z) (fun _ => z) := by
  obtain ⟨cur, h1, h2, h3⟩ := h
  refine ⟨cur, h1, h2, fun i hi => ?_⟩
  have hat : ∀ j, j < n * 2 → cur[j]? = some (.string z) := by
    intro j hj
    have := congrArg (·[j]?) h3
    simp only [List.getElem?_take, List.getElem?_replicate] at this
    rw [if_pos hj, if_pos hj] at this
    rw [← Array.getElem?_toList]
    exact this
  exact ⟨hat _ (by omega), hat _ (by omega)⟩

set_option maxHeartbeats 800000 in
set_option maxRecDepth 100000 in
theorem new_bad (x : Int) (w : World) (hx : x < 1 ∨ 8192 < x) :
    Calls Tryz.prog 45 #[.int .i64 x] w fun e w' => e = .returned (.tuple #[.pointer none, .int .i64 1]) ∧ w' = w := by
  by_cases h1 : x < 1
  · have d1 : decide (x < 1) = true := by simpa using h1
    go_enter Tryz.func45, Tryz.ntmps45
    go_wp2_with fail
    exact bodyPost_ret (v := .tuple #[.pointer none, .int .i64 1]) (by simp [results, Tryz.results45, go_sem]) rfl ⟨rfl, rfl⟩
  · have d1 : decide (x < 1) = false := by simpa using h1
    have d2 : decide (8192 < x) = true := by simp; omega
    go_enter Tryz.func45, Tryz.ntmps45
    go_wp2_with fail
    exact bodyPost_ret (v := .tuple #[.pointer none, .int .i64 1]) (by simp [results, Tryz.results45, go_sem]) rfl ⟨rfl, rfl⟩

set_option maxHeartbeats 800000 in
set_option maxRecDepth 100000 in
theorem new_any (n : Nat) (w : World) (hn1 : 1 ≤ n) (hn2 : n ≤ 8192) :
    Calls Tryz.prog 45 #[.int .i64 (n : Int)] w fun e w' => ∃ g gs, e = .returned (.tuple #[.pointer (some ⟨g, 0, none⟩), .int .i64 0]) ∧ Dev w.heap.size w' g gs (.slice none 0 0) (D0 n) ∧ Below w.heap.size w w' := by
  have cR := fun w => Tryz.strings_Repeat ⟨#[0]⟩ 512 w (by omega) (by decide)
  rw [zeros_blk] at cR
  have cS := fun b0 w => srepeat_any (blk 0) n hn1 hn2 b0 w
  generalize hz : blk 0 = z at *
  have d1 : decide ((n : Int) < 1) = false := by simp; omega
  have d2 : decide (8192 < (n : Int)) = false := by simp; omega
  go_enter Tryz.func45, Tryz.ntmps45
  go_wp2_with fail
  refine (cR w).mono ?_
  rintro e w1 ⟨rfl, hb1⟩
  go_wp2_with fail
  refine (cS w1.heap.size _ (by simp) (by simp)).mono ?_
  rintro e w2 ⟨rfl, ha2, hb2⟩
  go_wp2_with fail
  have hs2 : (w1.alloc (Obj.cells #[Value.string z, Value.string z] 114)).heap.size = w1.heap.size + 1 := by simp
  rw [hs2] at ha2
  have hb3 := below2 hb1 (below2 (below_alloc1 w1 _) hb2)
  have hd : Dev w.heap.size (w2.alloc (.cells #[.slice (some ⟨w1.heap.size + 1, 0, none⟩) n n, .slice none 0 0, .int .i64 0, .int .i64 0, .int .i64 0] 109)) w2.heap.size (w1.heap.size + 1) (.slice none 0 0) { D0 n with left := 0 } := by
    have hlt : w1.heap.size + 1 < w2.heap.size := by
      obtain ⟨cur, h1, _⟩ := ha2
      exact (Array.getElem?_eq_some_iff.1 h1).1
    refine ⟨heap_alloc_new w2 _, ?_, World.ownsRow_nil _ _ _ _, hb3.size, by have := hb1.size; omega, by omega, by simp [Value.ownBlock], by simp [Value.ownBlock]⟩
    obtain ⟨cur, h1, h2, h3⟩ := ha2.secs
    subst hz
    exact ⟨cur, by rw [Below.heap_alloc _ _ _ hlt]; exact h1, h2, h3⟩
  refine (arm_any hd (-1) (-1) rfl).mono ?_
  rintro e w4 ⟨rfl, h4, f4⟩
  go_wp2_with fail
  refine (refuse_any h4 0 0 rfl).mono ?_
  rintro e w5 ⟨rfl, h5, f5⟩
  go_wp2_with fail
  refine bodyPost_ret (v := .tuple #[.pointer (some ⟨w2.heap.size, 0, none⟩), .int .i64 0]) (by simp [results, Tryz.results45, go_sem]) rfl ⟨w2.heap.size, w1.heap.size + 1, rfl, h5, ?_⟩
  have k0 := below2 hb3 (below_alloc1 w2 (.cells #[.slice (some ⟨w1.heap.size + 1, 0, none⟩) n n, .slice none 0 0, .int .i64 0, .int .i64 0, .int .i64 0] 109))
  have k4 := f4.below k0 k0.size hd.from
  exact f5.below k4 k4.size h4.from

set_option maxHeartbeats 400000 in
theorem read_place {B : Nat} {w : World} {g gs : Nat} {hv : Value} {D : DS} (h : Dev B w g gs hv D) (x : Int) (hx : ¬ (0 ≤ x ∧ x < (D.n : Int))) :
    Calls Tryz.prog 146 #[.pointer (some ⟨g, 0, none⟩), .int .i64 x] w fun e w' => e = .returned (.tuple #[.string ⟨#[]⟩, .int .i64 40]) ∧ w' = w := by
  have cH := has_any h x
  rw [show (decide (0 ≤ x) && decide (x < (D.n : Int))) = false by rw [Bool.and_eq_false_iff]; by_cases h0 : 0 ≤ x; exact Or.inr (by simpa [h0] using hx); exact Or.inl (by simpa using h0)] at cH
  go_enter Tryz.func146, Tryz.ntmps146
  go_wp2_with fail
  refine cH.mono ?_
  rintro e w1 ⟨rfl, h1⟩
  rw [h1]
  go_wp2_with fail
  exact bodyPost_ret (v := .tuple #[.string ⟨#[]⟩, .int .i64 40]) (by simp [results, Tryz.results146, go_sem]) rfl ⟨rfl, rfl⟩

set_option maxHeartbeats 400000 in
theorem read_down {B : Nat} {w : World} {g gs : Nat} {hv : Value} {D : DS} (h : Dev B w g gs hv D) (i : Nat) (hi : i < D.n) (hl : D.left = 0) :
    Calls Tryz.prog 146 #[.pointer (some ⟨g, 0, none⟩), .int .i64 (i : Int)] w fun e w' => e = .returned (.tuple #[.string ⟨#[]⟩, .int .i64 41]) ∧ w' = w := by
  have cH := has_any h (i : Int)
  rw [show (decide (0 ≤ (i : Int)) && decide ((i : Int) < (D.n : Int))) = true by simp; omega] at cH
  have cD := down_any h
  rw [hl] at cD
  go_enter Tryz.func146, Tryz.ntmps146
  go_wp2_with fail
  refine cH.mono ?_
  rintro e w1 ⟨rfl, h1⟩
  rw [h1]
  go_wp2_with fail
  refine cD.mono ?_
  rintro e w2 ⟨rfl, h2⟩
  rw [h2]
  go_wp2_with fail
  exact bodyPost_ret (v := .tuple #[.string ⟨#[]⟩, .int .i64 41]) (by simp [results, Tryz.results146, go_sem]) rfl ⟨rfl, rfl⟩

set_option maxHeartbeats 400000 in
theorem read_ok {B : Nat} {w : World} {g gs : Nat} {hv : Value} {D : DS} (h : Dev B w g gs hv D) (i : Nat) (hi : i < D.n) (hl : D.left ≠ 0) (s : ByteArray) (hs : D.seen i = s) (hsz : s.size = 512) :
    Calls Tryz.prog 146 #[.pointer (some ⟨g, 0, none⟩), .int .i64 (i : Int)] w fun e w' => e = .returned (.tuple #[.string s, .int .i64 0]) ∧ Below w.heap.size w w' := by
  have cH := has_any h (i : Int)
  rw [show (decide (0 ≤ (i : Int)) && decide ((i : Int) < (D.n : Int))) = true by simp; omega] at cH
  have cD := down_any h
  rw [show (D.left == 0) = false by simpa using hl] at cD
  have c0 := h.cell.1
  have c1 := h.cellSeen i hi
  rw [hs] at c1
  have hi2 : (i : Int) < (D.n : Int) := by omega
  go_enter Tryz.func146, Tryz.ntmps146
  go_wp2_with fail
  refine cH.mono ?_
  rintro e w1 ⟨rfl, h1⟩
  rw [h1]
  go_wp2_with fail
  refine cD.mono ?_
  rintro e w2 ⟨rfl, h2⟩
  rw [h2]
  go_wp2_with fail
  refine (clone_any s _ (by omega)).mono ?_
  rintro e w3 ⟨rfl, h3⟩
  go_wp2_with fail
  exact bodyPost_ret (v := .tuple #[.string s, .int .i64 0]) (by simp [results, Tryz.results146, go_sem]) rfl ⟨rfl, h3⟩

end Go.Proofs.YtkjioabhdglkpaaGreat

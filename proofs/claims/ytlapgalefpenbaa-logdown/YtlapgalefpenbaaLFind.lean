/- read, find. -/
import Derived.Test.YtlapgalefpenbaaLRead
namespace Go.Proofs.Ytlapgalefpenbaa
open Go.RowKit

section
variable {B : Nat} {w : World} {lb g gs : Nat} {hv : Value} {D : DS}

set_option maxHeartbeats 400000 in
theorem lread_any (hc : w.cell? ⟨lb, 0, none⟩ = some (.pointer (some ⟨g, 0, none⟩))) (d : Dev B w g gs hv D) (i : Nat) (hin : i < D.n) (hl : D.left ≠ 0) (s : ByteArray) (hs : D.seen i = s) (hsz : s.size = 512) :
    Calls Try.prog 52 #[.pointer (some ⟨lb, 0, none⟩), .int .i64 (i : Int)] w fun e w' => e = .returned (.string s) ∧ Below w.heap.size w w' := by
  have cR := read_ok d i hin hl s hs hsz
  clear hs
  go_enter Try.func52, Try.ntmps52
  go_wp2_with fail
  refine cR.mono ?_
  rintro e w1 ⟨rfl, b1⟩
  go_wp2_with fail
  refine (throw_ok _).mono ?_
  rintro e w2 ⟨rfl, h2⟩
  rw [h2]
  go_wp2_with fail
  go_ret
  exact ⟨rfl, b1⟩

/-- The first byte of a sector. -/
theorem first_byte {s : ByteArray} {x : UInt8} (h : s.data.toList.head? = some x) : ∃ l, s.data.toList = x :: l := by
  cases hs : s.data.toList with
  | nil => rw [hs] at h; cases h
  | cons y l => rw [hs] at h; simp at h; subst h; exact ⟨l, rfl⟩

/-- The cells of a new variable, carried on. -/
theorem newPlace (w w1 : World) (b1 : Below (w.alloc (.cells #[.int .i64 0, .int .i64 0, .int .i64 0] 79)).heap.size (w.alloc (.cells #[.int .i64 0, .int .i64 0, .int .i64 0] 79)) w1) :
    (w1.cell? ⟨w.heap.size, 0, none⟩ = some (.int .i64 0) ∧ w1.cell? ⟨w.heap.size, 1, none⟩ = some (.int .i64 0) ∧ w1.cell? ⟨w.heap.size, 2, none⟩ = some (.int .i64 0)) ∧ w1.frozen? ⟨w.heap.size, 0, none⟩ = false ∧ w1.frozen? ⟨w.heap.size, 1, none⟩ = false ∧ w1.frozen? ⟨w.heap.size, 2, none⟩ = false := by
  have hlt : w.heap.size < (w.alloc (.cells #[.int .i64 0, .int .i64 0, .int .i64 0] 79)).heap.size := by simp
  have e := b1.block w.heap.size hlt
  have h0 : w1.heap[w.heap.size]? = some (.cells #[.int .i64 0, .int .i64 0, .int .i64 0] 79 (0, 0)) := e.trans (heap_alloc_new w _)
  refine ⟨?_, frozen_of_row w1 _ _ _ _ h0, frozen_of_row w1 _ _ _ _ h0, frozen_of_row w1 _ _ _ _ h0⟩
  simp [World.cell?, h0]

set_option maxHeartbeats 800000 in
set_option maxRecDepth 100000 in
theorem find_none (hc : w.cell? ⟨lb, 0, none⟩ = some (.pointer (some ⟨g, 0, none⟩))) (d : Dev B w g gs hv D) (hin : 0 < D.n) (hl : D.left ≠ 0) (h0 : D.seen 0 = blk 0) :
    Calls Try.prog 37 #[.pointer (some ⟨lb, 0, none⟩)] w fun e w' => e = .returned (.agg #[.int .i64 0, .int .i64 0, .int .i64 0]) ∧ Below w.heap.size w w' := by
  have hb := below_alloc1 w (.cells #[.int .i64 0, .int .i64 0, .int .i64 0] 79)
  have hlt := World.block_lt_of_cell? w _ hc
  have hc1 := (hb.cell (p := ⟨lb, 0, none⟩) hlt).trans hc
  have cR := lread_any hc1 (d.below hb) 0 hin hl (blk 0) h0 (blk_size 0)
  have hsz := blk_size 0
  have hz : ∀ h : 0 < (blk 0).size, ((blk 0)[0]'h).toNat = 0 := fun _ => rfl
  generalize blk 0 = s at *
  go_enter Try.func37, Try.ntmps37
  go_wp2_with fail
  refine cR.mono ?_
  rintro e w1 ⟨rfl, b1⟩
  obtain ⟨⟨r0, r1, r2⟩, q0, q1, q2⟩ := newPlace w w1 b1
  have hb1 := below2 hb b1
  go_wp2_with fail
  refine bodyPost_ret (v := .agg #[.int .i64 0, .int .i64 0, .int .i64 0]) ?_ rfl ⟨rfl, ((hb1.setCell (Nat.le_refl _) _).setCell (Nat.le_refl _) _).setCell (Nat.le_refl _) _⟩
  simp [results, Try.results37, go_sem, r0, r1, r2]

theorem get_first (a b : Nat) (ha : a < 128) (hb : b < 18446744073709551616) : getAt (sec (enc a ++ enc b)).data.toList 0 = (a, 1, true) ∧ getAt (sec (enc a ++ enc b)).data.toList 1 = (b, (enc b).length, true) := by
  rw [sec_list, enc_small a ha]
  unfold getAt
  constructor
  · rw [if_pos ⟨by omega, by simp; omega⟩]
    have := dec_enc a (enc b ++ List.replicate (512 - ([UInt8.ofNat a] ++ enc b).length) 0) (by omega)
    rw [enc_small a ha] at this
    simpa using this
  · rw [if_pos ⟨by omega, by simp; omega⟩]
    have := dec_enc b (List.replicate (512 - ([UInt8.ofNat a] ++ enc b).length) 0) hb
    simpa using this

set_option maxHeartbeats 1600000 in
set_option maxRecDepth 100000 in
theorem find_good (hc : w.cell? ⟨lb, 0, none⟩ = some (.pointer (some ⟨g, 0, none⟩))) (d : Dev B w g gs hv D) (h8 : 8 ≤ D.n) (hn : D.n ≤ 8192) (hl : D.left ≠ 0) (hsz : ∀ j, j < D.n → (D.seen j).size = 512) (A : Nat) (hA : A = areaN D.n) (P : PS) (hP : Holds A D.seen P) (hm : mark D.seen = some (UInt8.ofNat P.slot)) (hus : 1 ≤ P.used) :
    Calls Try.prog 37 #[.pointer (some ⟨lb, 0, none⟩)] w fun e w' => e = .returned (.agg #[.int .i64 (P.slot : Int), .int .i64 (P.area : Int), .int .i64 (P.used : Int)]) ∧ Below w.heap.size w w' := by
  have hb := below_alloc1 w (.cells #[.int .i64 0, .int .i64 0, .int .i64 0] 79)
  have hlt := World.block_lt_of_cell? w _ hc
  have hc1 := (hb.cell (p := ⟨lb, 0, none⟩) hlt).trans hc
  have hA4 : 2 * A + 4 ≤ D.n ∧ A ≤ 4096 := by rw [hA]; unfold areaN; omega
  obtain ⟨s0, hs0⟩ : ∃ s0, D.seen 0 = s0 := ⟨_, rfl⟩
  have hz0 := hsz 0 (by omega)
  rw [hs0] at hz0
  have cR := lread_any hc1 (d.below hb) 0 (by omega) hl s0 hs0 hz0
  have hslot := hP.slot
  have hsay := hP.says
  have harea := hP.area
  have hroom := hP.room
  have hbyte : ∀ h : 0 < s0.size, (s0[0]'h).toNat = P.slot := by
    intro h
    unfold mark at hm
    rw [hs0] at hm
    obtain ⟨l, hl⟩ := first_byte hm
    have e : s0.data[0]? = some (UInt8.ofNat P.slot) := by rw [← Array.getElem?_toList, hl]; rfl
    have e2 : s0.data[0]? = some (s0[0]'h) := by rw [Array.getElem?_eq_getElem (by exact h)]; rfl
    rw [e2] at e
    injection e with e
    rw [e, byte_low _ (by omega)]
  obtain ⟨gt1, gt2⟩ := get_first P.area P.used (by omega) (by omega)
  obtain ⟨s1, hs1⟩ : ∃ s1, s1 = sec (enc P.area ++ enc P.used) := ⟨_, rfl⟩
  rw [← hs1] at gt1 gt2 hsay
  have hz1 := hsz P.slot (by omega)
  rw [hsay] at hz1
  have cG1 := fun w => get_any s1 0 w
  have cG2 := fun w => get_any s1 1 w
  rw [gt1] at cG1
  rw [gt2] at cG2
  simp only [gotV] at cG1 cG2
  have cR2 := fun w hc d => lread_any (w := w) (lb := lb) (g := g) (gs := gs) (hv := hv) (B := B) (D := D) hc d P.slot (by omega) hl s1 hsay hz1
  have cA := fun w d => areaOf_any (B := B) (w := w) (g := g) (gs := gs) (hv := hv) (D := D) d h8 hn A hA
  have dD := d.below hb
  obtain ⟨slot, area, used, T⟩ := P
  simp only at *
  have z1 : ¬ (2 : Int) ≤ (area : Int) := by omega
  have z2 : ¬ (used : Int) < 1 := by omega
  have z3 : ¬ (A : Int) < (used : Int) := by omega
  clear hP hm hA hs0 hs1 gt1 gt2 hsay d
  rcases hslot with rfl | rfl
  all_goals go_enter Try.func37, Try.ntmps37
  all_goals go_wp2_with fail
  all_goals refine cR.mono ?_
  all_goals rintro e w1 ⟨rfl, b1⟩
  all_goals have hc2 := (b1.cell (p := ⟨lb, 0, none⟩) (World.block_lt_of_cell? _ _ hc1)).trans hc1
  all_goals have d2 := dD.below b1
  all_goals go_wp2_with fail
  all_goals refine (cR2 _ hc2 d2).mono ?_
  all_goals rintro e w2 ⟨rfl, b2⟩
  all_goals have hc3 := (b2.cell (p := ⟨lb, 0, none⟩) (World.block_lt_of_cell? _ _ hc2)).trans hc2
  all_goals have d3 := d2.below b2
  all_goals have b3 := below2 b1 b2
  all_goals obtain ⟨⟨r0, r1, r2⟩, q0, q1, q2⟩ := newPlace w w2 b3
  all_goals have hb3 := below2 hb b3
  all_goals go_wp2_with fail
  all_goals refine (cG1 _).mono ?_
  all_goals rintro e w3 ⟨rfl, e3⟩
  all_goals rw [e3]
  all_goals go_wp2_with fail
  all_goals refine (cG2 _).mono ?_
  all_goals rintro e w4 ⟨rfl, e4⟩
  all_goals rw [e4]
  all_goals go_wp2_with fail
  all_goals refine (cA _ d3).mono ?_
  all_goals rintro e w5 ⟨rfl, e5⟩
  all_goals rw [e5]
  all_goals go_wp2_with fail
  all_goals refine bodyPost_ret (v := .agg #[.int .i64 _, .int .i64 (area : Int), .int .i64 (used : Int)]) ?_ rfl ⟨rfl, ((hb3.setCell (Nat.le_refl _) _).setCell (Nat.le_refl _) _).setCell (Nat.le_refl _) _⟩
  all_goals simp [results, Try.results37, go_sem, r0, r1, r2]
end

end Go.Proofs.Ytlapgalefpenbaa

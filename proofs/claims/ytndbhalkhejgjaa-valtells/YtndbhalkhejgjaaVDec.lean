/- The value that stands in bytes: plain mathematics; the contracts of what a kind gets. -/
import Derived.Test.YtndbhalkhejgjaaVPuts
import Derived.Test.YtndbhalkhejgjaaGetInt
namespace Go.Proofs.Ytndbhalkhejgjaa
open Go.RowKit

/-- None. -/
def noV : V := ⟨0, 0, ⟨#[]⟩⟩

/-- What stands behind the byte of a kind. -/
def decK (c : Nat) (r : ByteArray) : V × Nat × Bool :=
  if c = 0 then (noV, 0, true)
  else if c = 1 then (if 0 < r.size ∧ bt r 0 ≤ 1 then (⟨1, (bt r 0 : Int), ⟨#[]⟩⟩, 1, true) else (noV, 0, false))
  else if c = 2 then (if (getAt r.data.toList 0).2.2 = true then (⟨2, zag (getAt r.data.toList 0).1, ⟨#[]⟩⟩, (getAt r.data.toList 0).2.1, true) else (noV, 0, false))
  else if c = 3 then (if (getTextAt r.data.toList 0 1024).2.2 = true then (⟨3, 0, ba (getTextAt r.data.toList 0 1024).1⟩, (getTextAt r.data.toList 0 1024).2.1, true) else (noV, 0, false))
  else (noV, 0, false)

/-- What stands behind a place. -/
def rest (s : ByteArray) (p : Nat) : ByteArray := s.extract p s.size

/-- The value that stands at a place. -/
def decV (s : ByteArray) (p : Int) : V × Nat × Bool :=
  if 0 ≤ p ∧ p < (s.size : Int) then
    (if (decK (bt s p.toNat) (rest s (p.toNat + 1))).2.2 = true then
      ((decK (bt s p.toNat) (rest s (p.toNat + 1))).1, 1 + (decK (bt s p.toNat) (rest s (p.toNat + 1))).2.1, true)
    else (noV, 0, false))
  else (noV, 0, false)

set_option maxHeartbeats 400000 in
theorem getNone_any (r : ByteArray) (w : World) : Calls Try.prog 57 #[.string r] w fun e w' =>
    e = .returned (.tuple #[.agg #[.int .i64 0, .int .i64 0, .string ⟨#[]⟩], .int .i64 0, .bool true]) ∧ Below w.heap.size w w' := by
  go_enter Try.func57, Try.ntmps57
  go_wp2
  exact bodyPost_ret (v := .tuple #[.agg #[.int .i64 0, .int .i64 0, .string ⟨#[]⟩], .int .i64 0, .bool true]) (by simp [results, Try.results57, go_sem]) rfl ⟨rfl, below_alloc1 _ _⟩

set_option maxHeartbeats 400000 in
theorem getBool_yes (r : ByteArray) (w : World) (c : Nat) (hc : bt r 0 = c) (h0 : 0 < r.size) (h1 : c ≤ 1) : Calls Try.prog 60 #[.string r] w fun e w' =>
    e = .returned (.tuple #[.agg #[.int .i64 1, .int .i64 (c : Int), .string ⟨#[]⟩], .int .i64 1, .bool true]) ∧ Below w.heap.size w w' := by
  have hl := list_some r (by omega)
  have hb := bt_eq r 0 h0
  rw [hc] at hb
  have h2 : ¬ (1 : Int) < (c : Int) := by omega
  clear hc h1
  go_enter Try.func60, Try.ntmps60
  go_wp2
  exact bodyPost_ret (v := .tuple #[.agg #[.int .i64 1, .int .i64 (c : Int), .string ⟨#[]⟩], .int .i64 1, .bool true]) (by simp [results, Try.results60, go_sem]) rfl ⟨rfl, below_alloc1 _ _⟩

set_option maxHeartbeats 400000 in
theorem getBool_no (r : ByteArray) (w : World) (h : ¬ (0 < r.size ∧ bt r 0 ≤ 1)) : Calls Try.prog 60 #[.string r] w fun e w' =>
    e = .returned (.tuple #[.agg #[.int .i64 0, .int .i64 0, .string ⟨#[]⟩], .int .i64 0, .bool false]) ∧ Below w.heap.size w w' := by
  by_cases h0 : r.size = 0
  · obtain rfl := size_zero r h0
    clear h h0
    go_enter Try.func60, Try.ntmps60
    go_wp2
    exact bodyPost_ret (v := .tuple #[.agg #[.int .i64 0, .int .i64 0, .string ⟨#[]⟩], .int .i64 0, .bool false]) (by simp [results, Try.results60, go_sem]) rfl ⟨rfl, below_alloc1 _ _⟩
  · have hl := list_some r h0
    have h4 : 0 < r.size := by omega
    have hb := bt_eq r 0 h4
    have h3 : 1 < bt r 0 := by omega
    generalize bt r 0 = c at *
    have h2 : (1 : Int) < (c : Int) := by omega
    clear h h0 h3
    go_enter Try.func60, Try.ntmps60
    go_wp2
    exact bodyPost_ret (v := .tuple #[.agg #[.int .i64 0, .int .i64 0, .string ⟨#[]⟩], .int .i64 0, .bool false]) (by simp [results, Try.results60, go_sem]) rfl ⟨rfl, below_alloc1 _ _⟩

set_option maxHeartbeats 400000 in
theorem vgetInt_any (r : ByteArray) (w : World) : Calls Try.prog 63 #[.string r] w fun e w' =>
    e = .returned (.tuple #[.agg #[.int .i64 2, .int .i64 (zag (getAt r.data.toList 0).1), .string ⟨#[]⟩], .int .i64 ((getAt r.data.toList 0).2.1 : Int), .bool (getAt r.data.toList 0).2.2]) ∧ Below w.heap.size w w' := by
  have hg := fun w => getInt_any r 0 w
  generalize getAt r.data.toList 0 = d at *
  obtain ⟨N, k, b⟩ := d
  simp only at *
  generalize zag N = Z at *
  go_enter Try.func63, Try.ntmps63
  go_wp2_with fail
  refine (hg _).mono ?_
  rintro e w1 ⟨rfl, rfl⟩
  go_wp2_with fail
  exact bodyPost_ret (v := .tuple #[.agg #[.int .i64 2, .int .i64 Z, .string ⟨#[]⟩], .int .i64 (k : Int), .bool b]) (by simp [results, Try.results63, go_sem]) rfl ⟨rfl, below_alloc1 _ _⟩

theorem below_set3 {w w1 : World} {z : Obj} (hb : Below (w.alloc z).heap.size (w.alloc z) w1) (a b c : Value) :
    Below w.heap.size w (((w1.setCell ⟨w.heap.size, 0, none⟩ a).setCell ⟨w.heap.size, 1, none⟩ b).setCell ⟨w.heap.size, 2, none⟩ c) := by
  have h1 : Below w.heap.size w w1 := ((Below.refl _ w).alloc (Nat.le_refl _) z).trans (hb.mono (by simp))
  exact ((h1.setCell (p := ⟨w.heap.size, 0, none⟩) (Nat.le_refl _) a).setCell (p := ⟨w.heap.size, 1, none⟩) (Nat.le_refl _) b).setCell (p := ⟨w.heap.size, 2, none⟩) (Nat.le_refl _) c

set_option maxHeartbeats 400000 in
theorem vgetText_any (r : ByteArray) (w : World) (hr : r.size ≤ 281474976710656) : Calls Try.prog 66 #[.string r] w fun e w' =>
    e = .returned (.tuple #[.agg #[.int .i64 3, .int .i64 0, .string (ba (getTextAt r.data.toList 0 1024).1)], .int .i64 ((getTextAt r.data.toList 0 1024).2.1 : Int), .bool (getTextAt r.data.toList 0 1024).2.2]) ∧ Below w.heap.size w w' := by
  have hg := fun w => getText_any r 0 1024 w hr (by omega)
  generalize getTextAt r.data.toList 0 1024 = d at *
  obtain ⟨T, k, b⟩ := d
  simp only at *
  generalize ba T = Z at *
  clear hr
  go_enter Try.func66, Try.ntmps66
  go_wp2_with fail
  refine (hg _).mono ?_
  rintro e w1 ⟨rfl, hb⟩
  obtain ⟨hc, hf⟩ := bcell hb
  have hz : w.heap.size < w1.heap.size := by have := hb.size; simp at this; omega
  go_wp2_with fail
  exact bodyPost_ret (v := .tuple #[.agg #[.int .i64 3, .int .i64 0, .string Z], .int .i64 (k : Int), .bool b]) (by simp [results, Try.results66, go_sem, hc]) rfl ⟨rfl, below_set3 hb _ _ _⟩

end Go.Proofs.Ytndbhalkhejgjaa

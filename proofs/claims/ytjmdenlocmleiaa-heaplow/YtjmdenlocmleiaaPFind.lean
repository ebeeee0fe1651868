/- find, Good, Empty, Get, Delete. -/
import Derived.Test.YtjmdenlocmleiaaPRead
import Derived.Test.YtjmdenlocmleiaaClone
namespace Go.Proofs.Ytjmdenlocmleiaa
open Go.RowKit

/-- The bounds of an int. -/
abbrev i64ok (k : Int) : Prop := -9223372036854775808 ≤ k ∧ k ≤ 9223372036854775807

theorem read_no (p : ByteArray) (w : World) (hp : p.size ≤ 1000000) (h : rd p = none) :
    Calls Try.prog 46 #[.string p] w fun e w' => ∃ v, e = .returned (.tuple #[v, .bool false]) ∧ Rw 94 cf w' w.heap.size v [] ∧ Below w.heap.size w w' := by
  have := read_any p w hp
  rw [h] at this
  exact this
theorem read_yes (p : ByteArray) (w : World) (l : List Sl) (hp : p.size ≤ 1000000) (h : rd p = some l) :
    Calls Try.prog 46 #[.string p] w fun e w' => ∃ v, e = .returned (.tuple #[v, .bool true]) ∧ Rw 94 cf w' w.heap.size v l ∧ Below w.heap.size w w' := by
  have := read_any p w hp
  rw [h] at this
  exact this

set_option maxHeartbeats 800000 in
theorem good_any (p : ByteArray) (w : World) (hp : p.size ≤ 1000000) (b : Bool) (hb : (rd p).isSome = b) :
    Calls Try.prog 23 #[.string p] w fun e w' => e = .returned (.bool b) ∧ Below w.heap.size w w' := by
  have c := read_any p w hp
  rw [hb] at c
  clear hb
  go_enter Try.func23, Try.ntmps23
  go_wp2_with fail
  refine c.mono ?_
  rintro e w1 ⟨v, rfl, _, b1⟩
  go_wp2_with fail
  go_ret
  exact ⟨rfl, b1⟩

theorem pg_nil : pg [] = ba (List.replicate 512 0) := by decide +kernel

set_option maxHeartbeats 800000 in
theorem find_form (p : ByteArray) (k : Int) (w : World) (hp : p.size ≤ 1000000) (h : rd p = none) :
    Calls Try.prog 47 #[.string p, .int .i64 k] w fun e w' => e = .returned (.tuple #[.slice none 0 0, .int .i64 11]) ∧ Below w.heap.size w w' := by
  have c := read_no p w hp h
  clear h
  go_enter Try.func47, Try.ntmps47
  go_wp2_with fail
  refine c.mono ?_
  rintro e w1 ⟨v, rfl, _, b1⟩
  go_wp2_with fail
  go_ret2
  exact ⟨rfl, b1⟩

set_option maxHeartbeats 1600000 in
set_option maxRecDepth 100000 in
theorem find_none (p : ByteArray) (l : List Sl) (k : Int) (w : World) (hp : p.size ≤ 1000000) (h : rd p = some l) (_hl : l.length ≤ 1000) (hk : i64ok k) (hr : rowAt l k = none) :
    Calls Try.prog 47 #[.string p, .int .i64 k] w fun e w' => e = .returned (.tuple #[.slice none 0 0, .int .i64 60]) ∧ Below w.heap.size w w' := by
  have c := read_yes p w l hp h
  clear h
  obtain ⟨hk0, hk1⟩ := hk
  by_cases h0 : k < 0
  · go_enter Try.func47, Try.ntmps47
    go_wp2_with fail
    refine c.mono ?_
    rintro e w1 ⟨v, rfl, _, b1⟩
    go_wp2_with fail
    go_ret2
    exact ⟨rfl, b1⟩
  · obtain ⟨i, rfl⟩ : ∃ i : Nat, k = (i : Int) := ⟨k.toNat, by omega⟩
    by_cases h1 : i < l.length
    · have hx : l[i]? = some none := by
        have : l[i]? = some l[i] := by simp [h1]
        unfold rowAt at hr
        rw [if_pos (by omega), Int.toNat_natCast, this] at hr
        rw [this]
        simpa using hr
      have hi : ¬ (l.length : Int) ≤ (i : Int) := by omega
      clear hr h0
      go_enter Try.func47, Try.ntmps47
      go_wp2_with fail
      refine c.mono ?_
      rintro e w1 ⟨v, rfl, r1, b1⟩
      obtain ⟨b, c', rfl, _, _, _, _, c0, _⟩ := r1.cell hx
      have c0' : w1.cell? ⟨b, i * 2, none⟩ = some (.bool false) := c0
      clear c0
      go_wp2_with fail
      go_ret2
      exact ⟨rfl, b1⟩
    · have hi : (l.length : Int) ≤ (i : Int) := by omega
      clear hr
      go_enter Try.func47, Try.ntmps47
      go_wp2_with fail
      refine c.mono ?_
      rintro e w1 ⟨v, rfl, r1, b1⟩
      obtain ⟨sa, sc, rfl, _⟩ := r1.len
      go_wp2_with fail
      go_ret2
      exact ⟨rfl, b1⟩

set_option maxHeartbeats 1600000 in
set_option maxRecDepth 100000 in
theorem find_some (p : ByteArray) (l : List Sl) (i : Nat) (r : ByteArray) (w : World) (hp : p.size ≤ 1000000) (h : rd p = some l) (_hl : l.length ≤ 1000) (hx : l[i]? = some (some r)) :
    Calls Try.prog 47 #[.string p, .int .i64 (i : Int)] w fun e w' => ∃ v, e = .returned (.tuple #[v, .int .i64 0]) ∧ Rw 94 cf w' w.heap.size v l ∧ Below w.heap.size w w' := by
  have c := read_yes p w l hp h
  clear h
  have h1 : i < l.length := (List.getElem?_eq_some_iff.1 hx).1
  have hi : ¬ (l.length : Int) ≤ (i : Int) := by omega
  go_enter Try.func47, Try.ntmps47
  go_wp2_with fail
  refine c.mono ?_
  rintro e w1 ⟨v, rfl, r1, b1⟩
  have r2 := r1
  obtain ⟨b, c', rfl, _, _, _, _, c0, _⟩ := r1.cell hx
  have c0' : w1.cell? ⟨b, i * 2, none⟩ = some (.bool true) := c0
  clear c0
  go_wp2_with fail
  go_ret2
  exact ⟨_, rfl, r2, b1⟩

set_option maxHeartbeats 800000 in
theorem get_row (p : ByteArray) (l : List Sl) (i : Nat) (r : ByteArray) (w : World) (hp : p.size ≤ 1000000) (h : rd p = some l) (hl : l.length ≤ 1000) (hr : r.size ≤ 400) (hx : l[i]? = some (some r)) :
    Calls Try.prog 27 #[.string p, .int .i64 (i : Int)] w fun e w' => e = .returned (.tuple #[.string r, .int .i64 0]) ∧ Below w.heap.size w w' := by
  have c := find_some p l i r w hp h hl hx
  have h1 : i < l.length := (List.getElem?_eq_some_iff.1 hx).1
  clear h
  go_enter Try.func27, Try.ntmps27
  go_wp2_with fail
  refine c.mono ?_
  rintro e w1 ⟨v, rfl, r1, b1⟩
  obtain ⟨b, c', rfl, _, _, _, _, _, c1, _⟩ := r1.cell hx
  have c1' : w1.cell? ⟨b, i * 2 + 1, none⟩ = some (.string r) := c1
  clear c1
  go_wp2_with fail
  refine (clone_any r w1 (by omega)).mono ?_
  rintro e w2 ⟨rfl, b2⟩
  go_wp2_with fail
  go_ret2
  exact ⟨rfl, below2 b1 b2⟩

set_option maxHeartbeats 800000 in
theorem get_err (p : ByteArray) (k E : Int) (w : World) (hE : E = 11 ∨ E = 60) (c : Calls Try.prog 47 #[.string p, .int .i64 k] w fun e w' => e = .returned (.tuple #[.slice none 0 0, .int .i64 E]) ∧ Below w.heap.size w w') :
    Calls Try.prog 27 #[.string p, .int .i64 k] w fun e w' => e = .returned (.tuple #[.string ⟨#[]⟩, .int .i64 E]) ∧ Below w.heap.size w w' := by
  have hE2 : (E != 0) = true := by rcases hE with rfl | rfl <;> rfl
  clear hE
  go_enter Try.func27, Try.ntmps27
  go_wp2_with fail
  refine c.mono ?_
  rintro e w1 ⟨rfl, b1⟩
  go_wp2_with fail
  go_ret2
  exact ⟨rfl, b1⟩

set_option maxHeartbeats 800000 in
theorem del_err (p : ByteArray) (k E : Int) (w : World) (hE : E = 11 ∨ E = 60) (c : Calls Try.prog 47 #[.string p, .int .i64 k] w fun e w' => e = .returned (.tuple #[.slice none 0 0, .int .i64 E]) ∧ Below w.heap.size w w') :
    Calls Try.prog 32 #[.string p, .int .i64 k] w fun e w' => e = .returned (.tuple #[.string ⟨#[]⟩, .int .i64 E]) ∧ Below w.heap.size w w' := by
  have hE2 : (E != 0) = true := by rcases hE with rfl | rfl <;> rfl
  clear hE
  go_enter Try.func32, Try.ntmps32
  go_wp2_with fail
  refine c.mono ?_
  rintro e w1 ⟨rfl, b1⟩
  go_wp2_with fail
  go_ret2
  exact ⟨rfl, b1⟩

set_option maxHeartbeats 800000 in
theorem pdel_row (p : ByteArray) (l : List Sl) (i : Nat) (r : ByteArray) (w : World) (hp : p.size ≤ 1000000) (h : rd p = some l) (hF : Fine l) (hx : l[i]? = some (some r)) (P : ByteArray) (HP : Hid (pg (delL l (i : Int)) = P)) :
    Calls Try.prog 32 #[.string p, .int .i64 (i : Int)] w fun e w' => e = .returned (.tuple #[.string P, .int .i64 0]) ∧ Below w.heap.size w w' := by
  have hl : l.length ≤ 1000 := by have := few hF.room; omega
  have c := find_some p l i r w hp h hl hx
  have h1 : i < l.length := (List.getElem?_eq_some_iff.1 hx).1
  have hF2 : Fine (trimL (l.set i none)) := by have := del_fine hF (i : Int); simpa [delL] using this
  have HP2 : Hid (pg (trimL (l.set i none)) = P) := by show _ = _; have := HP.out; simpa [delL] using this
  clear h HP
  go_enter Try.func32, Try.ntmps32
  go_wp2_with fail
  refine c.mono ?_
  rintro e w1 ⟨v, rfl, r1, b1⟩
  have r1' := r1
  obtain ⟨b, c', rfl, hc, _, hb, _, c0, c1, f0, f1⟩ := r1.cell hx
  have r2 := r1'.set2 (i := i) (s := none)
  have b2 := ((Below.refl w.heap.size w1).setCell (p := ⟨b, i * 2, none⟩) hb (.bool false)).setCell (p := ⟨b, i * 2 + 1, none⟩) hb (.string ⟨#[]⟩)
  have c0' : w1.cell? ⟨b, i * 2, none⟩ = some (.bool true) := c0
  have c1' : w1.cell? ⟨b, i * 2 + 1, none⟩ = some (.string r) := c1
  have cW := pwrite_any (some ⟨b, 0, none⟩) c' (l.set i none) w.heap.size _ (by rw [List.length_set]; exact r2) (by rw [List.length_set]; exact hl) (by rw [List.length_set]; exact hc) hF2 P HP2
  rw [List.length_set] at cW
  clear c0 c1 c HP2 hF2
  go_wp2_with fail
  refine cW.mono ?_
  rintro e w2 ⟨rfl, b3⟩
  go_wp2_with fail
  go_ret2
  exact ⟨rfl, (b1.trans b2).trans (b3.mono (b1.trans b2).size)⟩

end Go.Proofs.Ytjmdenlocmleiaa

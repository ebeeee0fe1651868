/- Base, Records; reading of sectors. -/
import Derived.Test.YtlapgalefpenbaaLRow
namespace Go.Proofs.Ytlapgalefpenbaa
open Go.RowKit

set_option maxHeartbeats 400000 in
theorem base_nil (w : World) : Calls Try.prog 28 #[.pointer none] w fun e w' => e = .returned (.string ⟨#[]⟩) ∧ w' = w := by
  go_enter Try.func28, Try.ntmps28
  go_wp2_with fail
  go_ret
  exact ⟨rfl, rfl⟩

set_option maxHeartbeats 400000 in
theorem base_any {w : World} {lb : Nat} {t : ByteArray} (c : w.cell? ⟨lb, 4, none⟩ = some (.string t)) (ht : t.size ≤ 1000000000) : Calls Try.prog 28 #[.pointer (some ⟨lb, 0, none⟩)] w fun e w' => e = .returned (.string t) ∧ Below w.heap.size w w' := by
  go_enter Try.func28, Try.ntmps28
  go_wp2_with fail
  refine (clone_any t w (by omega)).mono ?_
  rintro e w1 ⟨rfl, b1⟩
  go_wp2_with fail
  go_ret
  exact ⟨rfl, b1⟩

set_option maxHeartbeats 400000 in
theorem records_nil (w : World) : Calls Try.prog 27 #[.pointer none] w fun e w' => e = .returned (.slice none 0 0) ∧ w' = w := by
  go_enter Try.func27, Try.ntmps27
  go_wp2_with fail
  go_ret
  exact ⟨rfl, rfl⟩

/-- The cell of a record. -/
theorem Row.cell {w : World} {B : Nat} {rv : Value} {L : List ByteArray} (h : Row w B rv L) {i : Nat} {x : ByteArray} (hx : L[i]? = some x) : ∃ b o cap, rv = .slice (some ⟨b, o, none⟩) L.length cap ∧ L.length ≤ cap ∧ w.cell? ⟨b, o + i, none⟩ = some (.string x) := by
  rcases h with ⟨_, rfl⟩ | ⟨b, o, cap, cur, rfl, _, h2, h3, _, _, h6⟩
  · simp at hx
  · exact ⟨b, o, cap, rfl, h3, by rw [cell_of_row w b _ cur _ _ h2]; exact h6 i x hx⟩
theorem Row.len {w : World} {B : Nat} {rv : Value} {L : List ByteArray} (h : Row w B rv L) : ∃ a c, rv = .slice a L.length c := by
  rcases h with ⟨rfl, rfl⟩ | ⟨b, o, cap, cur, rfl, _⟩
  · exact ⟨_, _, rfl⟩
  · exact ⟨_, _, rfl⟩

set_option maxHeartbeats 1600000 in
set_option maxRecDepth 100000 in
theorem records_any {w : World} {B lb : Nat} {rv : Value} {L : List ByteArray} (c : w.cell? ⟨lb, 5, none⟩ = some rv) (hrow : Row w B rv L) (hl : L.length ≤ 100000) (hs : ∀ t ∈ L, t.size ≤ 1000000000) :
    Calls Try.prog 27 #[.pointer (some ⟨lb, 0, none⟩)] w fun e w' => ∃ v, e = .returned v ∧ Row w' w.heap.size v L ∧ Below w.heap.size w w' := by
  obtain ⟨i0, hi, hz0, hz1, hz2⟩ := info_parts Try.info9
  have HL : Hid (L.length ≤ 100000) := hl
  obtain ⟨a, cp, hav⟩ := hrow.len
  have hrow2 := hrow
  rw [hav] at c hrow2
  clear hrow
  go_enter Try.func27, Try.ntmps27
  go_wp2_with fail
  go_loopw [3, 13] (fun sv si wr => ∃ (k : Nat) (v : Value), k ≤ L.length ∧ si = .int .i64 (k : Int) ∧ v = sv ∧ wr.ownsRow w.heap.size 9 1 v k ((L.take k).map Value.string) ∧ Below w.heap.size w wr) (fun _ si _ => L.length - (intOf si).toNat)
  case atStart => exact ⟨0, _, Nat.zero_le _, rfl, rfl, by simpa using World.ownsRow_nil _ _ _ _, Below.refl _ _⟩
  case round =>
    obtain ⟨k, v, hk, rfl, hsv, hown, hbel⟩ := hrel
    subst hsv
    by_cases hkl : k < L.length
    · have hkl2 : (k : Int) < (L.length : Int) := by omega
      have hx : L[k]? = some L[k] := by simp [hkl]
      generalize hxx : L[k] = x at hx
      obtain ⟨b, o, cap, e, hc, cx⟩ := hrow2.cell hx
      injection e with e1 e2 e3
      subst e1 e3
      have hblt : b < w.heap.size := World.block_lt_of_cell? w _ cx
      have cx1 : wr.cell? ⟨b, o + k, none⟩ = some (.string x) := (hbel.cell (p := ⟨b, o + k, none⟩) hblt).trans cx
      have hxs := hs x (List.mem_of_getElem? hx)
      have htk : (L.take (k + 1)).map Value.string = (L.take k).map Value.string ++ [.string x] := by
        rw [List.take_add_one, hx, List.map_append]
        rfl
      have hks : k ≤ 100000 := by have := HL.out; omega
      go_wp2_with fail
      refine (clone_any x wr (by omega)).mono ?_
      rintro e w1 ⟨rfl, b1⟩
      have hown1 : w1.ownsRow w.heap.size 9 1 v k ((L.take k).map Value.string) := owns_kept hown (fun j _ hj => b1.block j hj)
      have hbel1 := hbel.trans (b1.mono hbel.size)
      have hown2 := hown1.alloc (.cells #[.string x] 9)
      go_wp2_with (at_builtin; refine wpList_append_own _ rfl (.tmp 17) (.tmp 20) 33 rfl w.heap.size 9 i0 (.string ⟨#[]⟩) 1 16 Try.underlying33 hi hz0 hz1 hz2 rfl (by decide) v k ((L.take k).map Value.string) rfl hown2 ⟨w1.heap.size, 0, none⟩ 1 1 [.string x] rfl rfl (by intro t u ht; match t, ht with | 0, ht => simp at ht; subst ht; simp [Addr.add]) (by intro u hu; simp at hu; subst hu; rfl) (by unfold maxLen; omega) (by omega) (by have := hbel1.size; simp; omega) ?_; intro v8 w8 ho8 hg8 hn8)
      go_roundw
      case rel =>
        refine ⟨k + 1, _, by omega, by go_num, rfl, by rw [htk]; exact ho8, ?_⟩
        refine (hbel1.alloc hbel1.size _).grown hg8 (by have := hbel1.size; simp; omega) (fun j hj => ?_)
        exact (hown2.lt j hj).1
      case measure => simp [intOf]; omega
    · obtain rfl : k = L.length := by omega
      rw [List.take_length] at hown
      go_wp2_with fail
      go_ret
      exact ⟨_, rfl, Row.of_own hown, hbel⟩

end Go.Proofs.Ytlapgalefpenbaa

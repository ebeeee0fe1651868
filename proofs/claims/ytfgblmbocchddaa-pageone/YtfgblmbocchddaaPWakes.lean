/- hedgerowkeep's Zeros, Ints; wakes; fair. -/
import Derived.Test.YtfgblmbocchddaaPSlots
namespace Go.Proofs.Ytfgblmbocchddaa
open Go.RowKit

theorem map_zeros (k : Nat) : (List.replicate k (0 : UInt8)).map bv = List.replicate k (.int .u8 0) := by
  rw [List.map_replicate]
  rfl

set_option maxHeartbeats 800000 in
set_option maxRecDepth 100000 in
theorem keepZeros_any (k : Nat) (w : World) (hk : k ≤ 100000) : Calls Try.prog 25 #[.int .i64 (k : Int)] w fun e w' => e = .returned (.string (ba (List.replicate k 0))) ∧ Below w.heap.size w w' := by
  obtain ⟨i0, hi, hz0, hz1, hz2⟩ := info_parts Try.info5
  obtain ⟨M, hM⟩ : ∃ M, M = madeCells (Value.int .u8 0).cells ((k : Int).toNat * i0.size) := ⟨_, rfl⟩
  have hmk : ∀ W : World, (Instr.makeSlice 76 (.int .i64 (k : Int)) (.int .i64 (k : Int))).run Try.prog W = .ok (.slice (some ⟨W.heap.size, 0, none⟩) k k) (W.alloc (.cells M 5)) := by
    intro W
    have h := run_make (P := Try.prog) W 76 5 i0 (.int .u8 0) Try.underlying76 hi hz0 .i64 .i64 (k : Int) (k : Int) (by omega) (by omega) (by rw [hz2]; omega) (by omega)
    rw [← hM] at h
    simpa using h
  have hMl : M.toList = (List.replicate k (0 : UInt8)).map bv := by
    rw [hM, hz1, map_zeros]
    show (madeCells #[Value.int .u8 0] ((k : Int).toNat * 1)).toList = _
    rw [toList_madeCells_one]
    simp
  have hMs : M.size = k * 1 := by rw [hM, size_madeCells, hz1]; simp
  have hown0 : (w.alloc (.cells M 5)).ownsRow w.heap.size 5 1 (.slice (some ⟨w.heap.size, 0, none⟩) k k) k ((List.replicate k (0 : UInt8)).map bv) := by
    rw [← hMl]
    exact World.ownsRow_lit w M k (Nat.le_refl _) (by unfold maxLen; omega) hMs
  have hcv := own_text hown0
  clear hM hMl hMs hown0
  go_enter Try.func25, Try.ntmps25
  go_wp2_with fail
  go_ret
  exact ⟨rfl, below_alloc1 _ _⟩

set_option maxHeartbeats 800000 in
set_option maxRecDepth 100000 in
theorem ints_any {w : World} {A B : Nat} {va vb : Value} (L : List Int) (h : IRow w A va L) (h' : IRow w B vb L) (hl : L.length ≤ 1000000) :
    Calls Try.prog 30 #[va, vb] w fun e w' => e = .returned (.bool true) ∧ Below w.heap.size w w' := by
  obtain ⟨a, c, rfl, hc, _⟩ := h.len
  obtain ⟨a', c', rfl, hc', _⟩ := h'.len
  go_enter Try.func30, Try.ntmps30
  go_wp2_with fail
  go_loopw [5] (fun si wr => ∃ k : Nat, k ≤ L.length ∧ si = .int .i64 (k : Int) ∧ Below w.heap.size w wr) (fun si _ => L.length - (intOf si).toNat)
  case atStart => exact ⟨0, by omega, rfl, Below.refl _ _⟩
  case round =>
    obtain ⟨k, hk, rfl, hb⟩ := hrel
    by_cases hlt : k < L.length
    · have hx : L[k]? = some L[k] := by simp [hlt]
      generalize L[k] = x at hx
      obtain ⟨b, _, e, _, _, hbl, q1⟩ := h.cell hx
      cases e
      obtain ⟨b', _, e, _, _, hbl', q2⟩ := h'.cell hx
      cases e
      have c1 := (hb.cell (p := ⟨b, k, none⟩) hbl).trans q1
      have c2 := (hb.cell (p := ⟨b', k, none⟩) hbl').trans q2
      have hlt2 : (k : Int) < (L.length : Int) := by omega
      clear q1 q2 hx
      go_wp2_with fail
      go_region
      go_wp2_with fail
      go_roundw
      case rel => exact ⟨k + 1, by omega, by go_num, hb.drew⟩
      case measure => simp [intOf]; omega
    · obtain rfl : k = L.length := by omega
      go_wp2_with fail
      go_ret
      exact ⟨rfl, hb⟩

set_option maxHeartbeats 1600000 in
set_option maxRecDepth 100000 in
theorem wakes_any (w : World) : Calls Try.prog 10 #[] w fun e w' => e = .returned (.bool true) ∧ Below w.heap.size w w' := by
  obtain ⟨row, hrow⟩ : ∃ row : ByteArray, row = ⟨#[114, 111, 119]⟩ := ⟨_, rfl⟩
  have hs : row.size = 3 := by rw [hrow]; rfl
  have hE : insE [] row = 0 := by
    unfold insE
    rw [if_neg (by omega), if_neg (by have : room (withF []) = 504 := by decide
                                      omega)]
  have hF : Fine [some row] := ins_fine fine_nil row hE
  have hN := rd_pg fine_nil
  have hO := rd_pg hF
  have hsz := pg_size hF
  have hsn := pg_size fine_nil
  have cI := fun w => ins_any (pg []) [] row w (by omega) hN fine_nil (by omega) (pg [some row]) 0 0 (by show _ = _; unfold insR; rw [if_pos hE]; rfl)
  have cGt := fun w => get_row (pg [some row]) [some row] 0 row w (by omega) hO (by simp) (by omega) rfl
  have cGd := fun w => good_any (pg [some row]) w (by omega) true (by rw [hO]; rfl)
  have cE := empty_any
  have cZ := fun w => keepZeros_any 512 w (by omega)
  rw [← pg_nil] at cZ
  have hsz2 : (((pg [some row]).size : Int) == 512) = true := by rw [hsz]; rfl
  generalize pg [some row] = P at *
  generalize pg [] = N at *
  subst hrow
  clear hE hF hN hO hs
  go_enter Try.func10, Try.ntmps10
  go_wp2_with fail
  refine (cE _).mono ?_
  rintro e w1 ⟨rfl, b1⟩
  go_wp2_with fail
  refine (cI _).mono ?_
  rintro e w2 ⟨rfl, b2⟩
  have b02 := below2 b1 b2
  go_wp2_with fail
  refine (cGt _).mono ?_
  rintro e w3 ⟨rfl, b3⟩
  have b03 := below2 b02 b3
  go_wp2_with fail
  refine (cGd _).mono ?_
  rintro e w4 ⟨rfl, b4⟩
  have b04 := below2 b03 b4
  go_wp2_with fail
  refine (cE _).mono ?_
  rintro e w5 ⟨rfl, b5⟩
  have b05 := below2 b04 b5
  go_wp2_with fail
  refine (cZ _).mono ?_
  rintro e w6 ⟨rfl, b6⟩
  go_wp2_with fail
  go_ret
  exact ⟨rfl, below2 b05 b6⟩

end Go.Proofs.Ytfgblmbocchddaa

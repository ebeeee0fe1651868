/- A sector of one byte. -/
import Derived.Test.YtghocbaafdnddaaGreatDMem
namespace Go.Proofs.YtghocbaafdnddaaGreat
open Go.RowKit

/-- The text of bytes. -/
def ba (l : List UInt8) : ByteArray := ⟨l.toArray⟩
theorem ba_size (l : List UInt8) : (ba l).size = l.length := rfl
theorem ba_inj {a b : List UInt8} (h : ba a = ba b) : a = b := by
  unfold ba at h
  have h2 := congrArg ByteArray.data h
  simpa using h2
theorem ba_list (l : List UInt8) : (ba l).toList = l := by
  rw [ByteArray.toList_eq]
  rfl

/-- A byte as a cell. -/
def bv (b : UInt8) : Value := .int .u8 (b.toNat : Int)

/-- A sector of one byte. -/
def blk (b : UInt8) : ByteArray := ba (List.replicate 512 b)
theorem blk_size (b : UInt8) : (blk b).size = 512 := by rw [blk, ba_size, List.length_replicate]

theorem own_text {w1 : World} {B k cap : Nat} {bs : List UInt8} (h : w1.ownsRow B 5 1 (.slice (some ⟨B, 0, none⟩) k cap) k (bs.map bv)) :
    (convert 74 9 (.slice (some ⟨B, 0, none⟩) k cap)).run Tryz.prog w1 = .ok (.string (ba bs)) w1 := by
  have hl : bs.length = k := by have := h.1; simpa using this
  have e := run_convert_bytes_arg (P := Tryz.prog) w1 74 5 Tryz.underlying74 Tryz.underlying5 B 0 k cap (bs.map fun b => (b.toNat : Int)) (by simpa using hl) (fun i hi => by
    rw [Nat.zero_add, h.cellAt i (by omega)]
    have : i < bs.length := by omega
    simp [bv, this]) 9 Tryz.underlying9
  rw [e]
  simp [strOfNums, Function.comp_def, ba]

/-- The row, filled as far as i. -/
def fillRow (b : UInt8) (i : Nat) : List Value := List.replicate i (bv b) ++ List.replicate (512 - i) (bv 0)
theorem fill_set (b : UInt8) (i : Nat) (hi : i < 512) : (fillRow b i).set i (bv b) = fillRow b (i + 1) := by
  unfold fillRow
  rw [List.set_append_right _ _ (by simp), List.length_replicate, Nat.sub_self, show 512 - i = (512 - (i + 1)) + 1 by omega, List.replicate_succ, List.set_cons_zero, List.replicate_succ', List.append_assoc]
  rfl
theorem fill_get (b : UInt8) (i : Nat) (hi : i < 512) : (fillRow b i)[i]? = some (bv 0) := by
  unfold fillRow
  rw [List.getElem?_append_right (by simp), List.length_replicate, Nat.sub_self, List.getElem?_replicate, if_pos (by omega)]
theorem fill_end (b : UInt8) : fillRow b 512 = (List.replicate 512 b).map bv := by
  unfold fillRow
  rw [Nat.sub_self, List.replicate_zero, List.append_nil, List.map_replicate]

set_option maxHeartbeats 800000 in
set_option maxRecDepth 100000 in
theorem block_any (x : Int) (b : UInt8) (hx : x = (b.toNat : Int)) (w : World) :
    Calls Tryz.prog 11 #[.int .u8 x] w fun e w' => e = .returned (.string (blk b)) ∧ Below w.heap.size w w' := by
  subst hx
  obtain ⟨i0, hi, hz0, hz1, hz2⟩ := info_parts Tryz.info5
  obtain ⟨M, hM⟩ : ∃ M, M = madeCells (Value.int .u8 0).cells ((512 : Int).toNat * i0.size) := ⟨_, rfl⟩
  have hmk : ∀ W : World, (Instr.makeSlice 74 (.int .i64 512) (.int .i64 512)).run Tryz.prog W = .ok (.slice (some ⟨W.heap.size, 0, none⟩) 512 512) (W.alloc (.cells M 5)) := by
    intro W
    have h := run_make (P := Tryz.prog) W 74 5 i0 (.int .u8 0) Tryz.underlying74 hi hz0 .i64 .i64 512 512 (by omega) (by omega) (by rw [hz2]; omega) (by omega)
    rw [← hM] at h
    simpa using h
  have hMl : M.toList = fillRow b 0 := by
    rw [hM, hz1]
    show (madeCells #[Value.int .u8 0] 512).toList = _
    rw [toList_madeCells_one]
    rfl
  have hMs : M.size = 512 * 1 := by rw [hM, size_madeCells, hz1]; rfl
  have hown0 : (w.alloc (.cells M 5)).ownsRow w.heap.size 5 1 (.slice (some ⟨w.heap.size, 0, none⟩) 512 512) 512 (fillRow b 0) := by
    rw [← hMl]
    exact World.ownsRow_lit w M 512 (Nat.le_refl _) (by unfold maxLen; omega) hMs
  clear hM hMl hMs
  have hb0 := below_alloc1 w (.cells M 5)
  go_enter Tryz.func11, Tryz.ntmps11
  go_wp2_with fail
  go_loopw [4] (fun si wr => ∃ i : Nat, i ≤ 512 ∧ si = .int .i64 (i : Int) ∧ wr.ownsRow w.heap.size 5 1 (.slice (some ⟨w.heap.size, 0, none⟩) 512 512) 512 (fillRow b i) ∧ Below w.heap.size w wr) (fun si _ => 512 - (intOf si).toNat)
  case atStart => exact ⟨0, by omega, rfl, hown0, hb0⟩
  case round =>
    obtain ⟨i, hi5, rfl, hown, hb⟩ := hrel
    by_cases hlt : i < 512
    · have hc := hown.cellAt i (by omega)
      rw [fill_get b i hlt] at hc
      have hf := hown.frozenAt i
      obtain ⟨hs, hg⟩ := hown.stored i (bv b)
      rw [fill_set b i hlt] at hs
      have hlt2 : (i : Int) < 512 := by omega
      go_wp2_with fail
      go_roundw
      case rel =>
        refine ⟨i + 1, by omega, by go_num, ?_, ?_⟩
        · exact hs
        · exact hb.grown hg hb.size (fun k hk => by cases hk; exact Nat.le_refl _)
      case measure => simp [intOf]; omega
    · obtain rfl : i = 512 := by omega
      rw [fill_end] at hown
      have hcv := own_text hown
      go_wp2_with fail
      go_ret
      exact ⟨rfl, hb⟩

end Go.Proofs.YtghocbaafdnddaaGreat

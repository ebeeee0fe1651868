/- The contracts of key's small functions: one byte, eight bytes. -/
import Derived.Test.YtijpnlomfodihaaDoorKMath
import Derived.Test.YtijpnlomfodihaaDoorVGood
import Derived.Test.YtijpnlomfodihaaDoorRefPut
namespace Go.Proofs.YtijpnlomfodihaaDoor
open Go.RowKit

/-- The text of cells that hold bytes. -/
theorem bytes_text (w1 : World) (B cap : Nat) (bs : List UInt8) (h : ∀ i, (hi : i < bs.length) → w1.cell? ⟨B, i, none⟩ = some (.int .u8 ((bs[i]).toNat : Int))) :
    (convert 46 9 (.slice (some ⟨B, 0, none⟩) bs.length cap)).run Tryd.prog w1 = .ok (.string (ba bs)) w1 := by
  have e := run_convert_bytes_arg (P := Tryd.prog) w1 46 5 Tryd.underlying46 Tryd.underlying5 B 0 bs.length cap (bs.map fun b => (b.toNat : Int)) (by simp) (fun i hi => by
    rw [Nat.zero_add, h i hi]
    simp [hi]) 9 Tryd.underlying9
  rw [e]
  simp [strOfNums, Function.comp_def, ba]

theorem ba_cat (a b : List UInt8) : ba a ++ ba b = ba (a ++ b) := by
  refine ByteArray.ext ?_
  simp [ba]

set_option maxHeartbeats 400000 in
theorem kOneByte_any (n : Nat) (hn : n < 256) (w : World) : Calls Tryd.prog 30 #[.int .u8 (n : Int)] w fun e w' => e = .returned (.string (ba [UInt8.ofNat n])) ∧ Below w.heap.size w w' := by
  have hb := byte_low n hn
  have HT := bytes_text (w.alloc (.cells #[.int .u8 (n : Int)] 5)) w.heap.size 1 [UInt8.ofNat n] (fun i hi => by
    obtain rfl : i = 0 := by simp at hi; omega
    simp [hb])
  simp only [List.length_singleton] at HT
  clear hb
  go_enter Tryd.func30, Tryd.ntmps30
  go_wp2_with fail
  go_ret
  exact ⟨rfl, (Below.refl _ _).alloc (Nat.le_refl _) _⟩

theorem be_at (k u i : Nat) (h : i < k) : (be k u)[i]'(by rw [be_length]; exact h) = UInt8.ofNat (u / 256 ^ (k - 1 - i)) := by
  induction k generalizing i with
  | zero => omega
  | succ k ih =>
    cases i with
    | zero => simp [be]
    | succ i =>
      simp only [be, List.getElem_cons_succ]
      rw [ih i (by omega)]
      congr 3
      omega

theorem two_pow (k : Nat) : (2 : Int) ^ (8 * k) = ((256 ^ k : Nat) : Int) := by
  rw [show (256 : Nat) = 2 ^ 8 from rfl, ← Nat.pow_mul]
  simp

set_option maxHeartbeats 800000 in
set_option maxRecDepth 100000 in
theorem kputInt_any (n : Int) (w : World) (h0 : -9223372036854775808 ≤ n) (h1 : n ≤ 9223372036854775807) :
    Calls Tryd.prog 41 #[.int .i64 n] w fun e w' => e = .returned (.string (ba (be 8 (n + 9223372036854775808).toNat))) ∧ Below w.heap.size w w' := by
  obtain ⟨U, hU⟩ : ∃ U : Nat, U = (n + 9223372036854775808).toNat := ⟨_, rfl⟩
  have hw : IntKind.u64.wrap (IntKind.u64.wrap n + 9223372036854775808) = (U : Int) := by
    rw [hU]; simp [IntKind.wrap, IntKind.signed, IntKind.bits]; omega
  rw [← hU]
  clear hU h0 h1
  go_enter Tryd.func41, Tryd.ntmps41
  go_wp2_with fail
  go_loopw [9, 5] (fun si _ wr => ∃ k q : Nat, k + q = 8 ∧ si = .int .i64 (k : Int) ∧ Hid (∀ j, j < 8 → wr.cell? ⟨w.heap.size, j, none⟩ = some (.int .u8 (if q ≤ j then ((U / 256 ^ (7 - j) % 256 : Nat) : Int) else 0))) ∧ Hid (∀ j, j < 8 → wr.frozen? ⟨w.heap.size, j, none⟩ = false) ∧ Below w.heap.size w wr)
    (fun si _ _ => 8 - (Lib.intOf si).toNat)
  case atStart =>
    refine ⟨0, 8, rfl, rfl, ?_, ?_, below_alloc1 _ _⟩
    · show ∀ j, j < 8 → _
      intro j hj
      rw [if_neg (by omega)]
      match j, hj with
      | 0, _ | 1, _ | 2, _ | 3, _ | 4, _ | 5, _ | 6, _ | 7, _ => simp
    · show ∀ j, j < 8 → _
      intro j hj
      simp
  case round =>
    obtain ⟨k, q, hk, rfl, HC, HF, hb⟩ := hrel
    by_cases h8 : k < 8
    · obtain ⟨r, rfl⟩ : ∃ r, q = r + 1 := ⟨q - 1, by omega⟩
      have hi : (7 : Int) - (k : Int) = (r : Int) := by omega
      have hc := HC.out r (by omega)
      rw [if_neg (by omega)] at hc
      have hf := HF.out r (by omega)
      go_wp2_with fail
      go_roundw
      case rel =>
        refine ⟨k + 1, r, by omega, by simp, ?_, ?_, hb.setCell (Nat.le_refl _) _⟩
        · show ∀ j, j < 8 → _
          intro j hj
          by_cases e : j = r
          · subst e
            rw [World.cell?_setCell_same _ _ _ hc, if_pos (Nat.le_refl _)]
            have e2 : 7 - j = k := by omega
            rw [e2, two_pow k]
            rfl
          · rw [World.cell?_setCell_other _ _ _ _ (fun h => e (by cases h; rfl)), HC.out j hj]
            by_cases e2 : r ≤ j
            · rw [if_pos e2, if_pos (by omega)]
            · rw [if_neg e2, if_neg (by omega)]
        · show ∀ j, j < 8 → _
          intro j hj
          rw [World.frozen?_setCell]
          exact HF.out j hj
      case measure => simp [Lib.intOf]; omega
    · obtain rfl : k = 8 := by omega
      obtain rfl : q = 0 := by omega
      have HT := bytes_text wr w.heap.size 8 (be 8 U) (fun i hi => by
        rw [be_length] at hi
        rw [HC.out i hi, if_pos (Nat.zero_le _), be_at 8 U i hi]
        simp)
      rw [be_length] at HT
      go_wp2_with fail
      go_ret
      exact ⟨rfl, hb⟩

end Go.Proofs.YtijpnlomfodihaaDoor

/- The contracts of the document's own answers for Put, PutInt, PutText. -/
import Derived.Test.YtndbhalkhejgjaaBase
import Derived.Deep.RegionWith
namespace Go.Proofs.Ytndbhalkhejgjaa
open Go.RowKit

theorem one_text (w1 : World) (B : Nat) (b : UInt8) (hc : w1.cell? ⟨B, 0, none⟩ = some (.int .u8 (b.toNat : Int))) :
    (convert 86 9 (.slice (some ⟨B, 0, none⟩) 1 1)).run Try.prog w1 = .ok (.string (ba [b])) w1 := by
  have e := run_convert_bytes_arg (P := Try.prog) w1 86 5 Try.underlying86 Try.underlying5 B 0 1 1 [(b.toNat : Int)] rfl (fun i hi => by
    obtain rfl : i = 0 := by omega
    simpa using hc) 9 Try.underlying9
  rw [e]
  simp [strOfNums, ba]

theorem kept_cell {W w1 : World} {x : Value} {t : TypeId} (hb : Below (W.alloc (.cells #[x] t)).drew.heap.size (W.alloc (.cells #[x] t)).drew w1) : w1.cell? ⟨W.heap.size, 0, none⟩ = some x := by
  rw [hb.cell (p := ⟨W.heap.size, 0, none⟩) (by simp)]
  simp

theorem below_alloc_drew {W w1 : World} {o : Obj} (hb : Below (W.alloc o).drew.heap.size (W.alloc o).drew w1) : Below W.heap.size W w1 :=
  (((Below.refl _ W).alloc (Nat.le_refl _) o).drew).trans (hb.mono (by simp))

theorem below_drew_alloc {W w1 : World} (hb : Below W.drew.heap.size W.drew w1) (o : Obj) : Below W.heap.size W (w1.alloc o) := by
  have h : Below W.heap.size W w1 := ((Below.refl _ W).drew).trans hb
  exact h.alloc h.size o

set_option maxHeartbeats 400000 in
set_option maxRecDepth 100000 in
theorem refPut_small (n : Nat) (w : World) (h : n < 128) :
    Calls Try.prog 50 #[.int .u64 (n : Int)] w fun e w' => e = .returned (.string (ba [UInt8.ofNat n])) ∧ Below w.heap.size w w' := by
  have hb := byte_low n (by omega)
  have HT := one_text (w.alloc (.cells #[.int .u8 (n : Int)] 5)) w.heap.size (UInt8.ofNat n) (by rw [hb]; simp)
  clear hb
  go_enter Try.func50, Try.ntmps50
  go_wp2_with fail
  go_ret
  exact ⟨rfl, (Below.refl _ _).alloc (Nat.le_refl _) _⟩

set_option maxHeartbeats 400000 in
set_option maxRecDepth 100000 in
theorem refPut_big (n : Nat) (l : List UInt8) (w : World) (h : 128 ≤ n) (hn : n < 18446744073709551616) (hl : l.length ≤ 10)
    (ih : ∀ w, Calls Try.prog 50 #[.int .u64 ((n : Int) / 128)] w fun e w' => e = .returned (.string (ba l)) ∧ Below w.heap.size w w') :
    Calls Try.prog 50 #[.int .u64 (n : Int)] w fun e w' => e = .returned (.string (ba (UInt8.ofNat (n % 128 + 128) :: l))) ∧ Below w.heap.size w w' := by
  have hb := byte_low (n % 128 + 128) (by omega)
  obtain ⟨c, hc⟩ : ∃ c, c = UInt8.ofNat (n % 128 + 128) := ⟨_, rfl⟩
  rw [← hc] at hb ⊢
  have hX : IntKind.u8.wrap (IntKind.u64.wrap ((n : Int).tmod 128 + 128)) = (c.toNat : Int) := by
    rw [hb, IntKind.wrap_u64, IntKind.wrap_u8', Int.tmod_eq_emod_of_nonneg (by omega)]
    omega
  have hY : IntKind.u64.wrap ((n : Int) / 128) = (n : Int) / 128 := by rw [IntKind.wrap_u64]; omega
  have HT : ∀ (W : World) (B : Nat), W.cell? ⟨B, 0, none⟩ = some (.int .u8 (c.toNat : Int)) → (convert 86 9 (.slice (some ⟨B, 0, none⟩) 1 1)).run Try.prog W = .ok (.string (ba [c])) W := fun W B hW => one_text W B c hW
  have hadd : ∀ W, (Op.stringOp .add (ba [c]) (ba l)).run Try.prog W = .ok (.string (ba (c :: l))) W := by
    intro W
    rw [run_string_add_sum (P := Try.prog) W _ _ (by rw [ba_size, ba_size]; simp; omega)]
    unfold ba
    rw [ByteArray.mk_append_mk]
    rfl
  clear hb hl hc hn
  generalize hZ : (n : Int) / 128 = Y at *
  have IH : Hid (∀ w, Calls Try.prog 50 #[.int .u64 Y] w fun e w' => e = .returned (.string (ba l)) ∧ Below w.heap.size w w') := ih
  clear ih
  go_enter Try.func50, Try.ntmps50
  go_wp2_with fail
  go_region_with (go_at_call 50; refine (IH.out _).mono ?_; rintro e w1 ⟨rfl, hb1⟩; try (have hc1 := kept_cell hb1))
  all_goals go_wp2_with fail
  all_goals go_ret
  · exact ⟨rfl, below_alloc_drew hb1⟩
  · exact ⟨rfl, below_alloc_drew hb1⟩
  · exact ⟨rfl, below_drew_alloc hb1 _⟩

/-- The document's Put: the same bytes. -/
theorem refPut_fuel (f n : Nat) (w : World) (h : n < 128 ^ (f + 1)) (hf : f ≤ 9) (hn : n < 18446744073709551616) :
    Calls Try.prog 50 #[.int .u64 (n : Int)] w fun e w' => e = .returned (.string (ba (encF f n))) ∧ Below w.heap.size w w' := by
  induction f generalizing n w with
  | zero =>
    rw [encF_small _ _ (by omega)]
    exact refPut_small n w (by omega)
  | succ f ih =>
    by_cases h1 : n < 128
    · rw [encF_small _ _ h1]
      exact refPut_small n w h1
    · rw [encF_big _ _ (by omega)]
      refine refPut_big n _ w (by omega) hn (by have := (encF_len f (n / 128)).2; omega) (fun w => ?_)
      have hq := ih (n / 128) w (by
        rw [Nat.pow_succ] at h
        exact Nat.div_lt_of_lt_mul (by rw [Nat.mul_comm]; exact h)) (by omega) (by omega)
      rw [show ((n : Int) / 128) = ((n / 128 : Nat) : Int) from by omega]
      exact hq

theorem refPut_S (x : Int) (w : World) (S : ByteArray) (hS : S = ba (enc x.toNat)) (h0 : 0 ≤ x) (h1 : x < 18446744073709551616) :
    Calls Try.prog 50 #[.int .u64 x] w fun e w' => e = .returned (.string S) ∧ Below w.heap.size w w' := by
  subst hS
  have h := refPut_fuel 9 x.toNat w (by omega) (by omega) (by omega)
  rw [show ((x.toNat : Nat) : Int) = x from by omega] at h
  exact h

set_option maxHeartbeats 400000 in
set_option maxRecDepth 100000 in
theorem refPutInt_S (n : Int) (w : World) (S : ByteArray) (hS : S = ba (enc (zig n))) (hn : -9223372036854775808 ≤ n ∧ n ≤ 9223372036854775807) :
    Calls Try.prog 46 #[.int .i64 n] w fun e w' => e = .returned (.string S) ∧ Below w.heap.size w w' := by
  by_cases h : n < 0
  · have hz : zig n = (-2 * n - 1).toNat := by unfold zig; rw [if_pos h]
    have hB := fun w => refPut_S (2 * (-(n + 1)) + 1) w S (by rw [hS, hz, show (-2 * n - 1) = 2 * (-(n + 1)) + 1 from by omega]) (by omega) (by omega)
    clear hS hz
    have hn1 := hn.1
    clear hn
    go_enter Try.func46, Try.ntmps46
    go_wp2_with fail
    refine (hB w).mono ?_
    rintro e w1 ⟨rfl, hb1⟩
    go_wp2_with fail
    go_ret
    exact ⟨rfl, hb1⟩
  · have hz : zig n = (2 * n).toNat := by unfold zig; rw [if_neg h]
    have hB := fun w => refPut_S (2 * n) w S (by rw [hS, hz]) (by omega) (by omega)
    clear hS hz
    have hn1 := hn.2
    have h0 : 0 ≤ n := by omega
    clear hn h
    go_enter Try.func46, Try.ntmps46
    go_wp2_with fail
    refine (hB w).mono ?_
    rintro e w1 ⟨rfl, hb1⟩
    go_wp2_with fail
    go_ret
    exact ⟨rfl, hb1⟩

theorem ba_add (a : List UInt8) (t : ByteArray) : ba a ++ t = ba (a ++ t.data.toList) := by
  have := ByteArray.mk_append_mk a t.data.toList
  rw [show (ByteArray.mk t.data.toList.toArray) = t from by simp] at this
  exact this

set_option maxHeartbeats 400000 in
set_option maxRecDepth 100000 in
theorem refPutText_S (t : ByteArray) (w : World) (S : ByteArray) (hS : S = ba (putT t.data.toList)) (h1 : t.size ≤ 9223372036854775797) :
    Calls Try.prog 47 #[.string t] w fun e w' => e = .returned (.string S) ∧ Below w.heap.size w w' := by
  have hl : t.data.toList.length = t.size := by simp
  have he := (enc_len t.size).2
  have hadd : ∀ W, (Op.stringOp .add (ba (enc t.size)) t).run Try.prog W = .ok (.string S) W := by
    intro W
    rw [run_string_add_sum (P := Try.prog) W _ _ (by rw [ba_size]; omega), hS, ba_add]
    unfold putT
    rw [hl]
  have hB := fun w => refPut_S (t.size : Int) w (ba (enc t.size)) (by rw [Int.toNat_natCast]) (by omega) (by omega)
  clear hl he hS
  go_enter Try.func47, Try.ntmps47
  go_wp2_with fail
  refine (hB w).mono ?_
  rintro e w1 ⟨rfl, hb1⟩
  go_wp2_with fail
  go_ret
  exact ⟨rfl, hb1⟩

theorem putText_S (t : ByteArray) (w : World) (S : ByteArray) (hS : S = ba (putT t.data.toList)) (h1 : t.size ≤ 9223372036854775797) :
    Calls Try.prog 49 #[.string t] w fun e w' => e = .returned (.string S) ∧ Below w.heap.size w w' := by
  subst hS
  exact putText_any t w h1

end Go.Proofs.Ytndbhalkhejgjaa

/- LogFull: the walk. -/
import Derived.Test.YtlapgalefpenbaaLWakes
namespace Go.Proofs.Ytlapgalefpenbaa
open Go.RowKit

set_option maxHeartbeats 400000 in
theorem modB_any (k : Int) (n : Nat) (w : World) (_h0 : -9223372036854775808 ≤ k) (_h1 : k ≤ 9223372036854775807) (hn : 1 ≤ n) (hn2 : n ≤ 100000) :
    Calls Try.prog 8 #[.int .i64 k, .int .i64 (n : Int)] w fun e w' => ∃ r : Nat, e = .returned (.int .i64 (r : Int)) ∧ r < n ∧ w' = w := by
  obtain ⟨r, hr, he, b1, b2⟩ := tmod_mod k n hn
  have hz : ((n : Int) == 0) = false := by rw [beq_eq_false_iff_ne]; omega
  have hm1 : ((n : Int) == -1) = false := by rw [beq_eq_false_iff_ne]; omega
  have hlt : decide ((n : Int) < 1) = false := by simp; omega
  generalize hq : k.tmod (n : Int) = q at *
  go_enter Try.func8, Try.ntmps8
  go_wp2_with fail
  go_ret
  exact ⟨r, rfl, hr, rfl⟩

theorem strCells_zeros (k : Nat) : Lib.strCells (ba (List.replicate k 0)) = List.replicate k (.int .u8 0) := by
  simp [Lib.strCells, ba]

set_option maxHeartbeats 800000 in
set_option maxRecDepth 100000 in
theorem zeros_any (k : Nat) (w : World) (hk : k ≤ 100000) : Calls Try.prog 29 #[.int .i64 (k : Int)] w fun e w' => ∃ t : ByteArray, e = .returned (.string t) ∧ t.size = k ∧ Below w.heap.size w w' := by
  obtain ⟨i0, hi, hz0, hz1, hz2⟩ := info_parts Try.info5
  obtain ⟨M, hM⟩ : ∃ M, M = madeCells (Value.int .u8 0).cells ((k : Int).toNat * i0.size) := ⟨_, rfl⟩
  have hmk : ∀ W : World, (Instr.makeSlice 89 (.int .i64 (k : Int)) (.int .i64 (k : Int))).run Try.prog W = .ok (.slice (some ⟨W.heap.size, 0, none⟩) k k) (W.alloc (.cells M 5)) := by
    intro W
    have h := run_make (P := Try.prog) W 89 5 i0 (.int .u8 0) Try.underlying89 hi hz0 .i64 .i64 (k : Int) (k : Int) (by omega) (by omega) (by rw [hz2]; omega) (by omega)
    rw [← hM] at h
    simpa using h
  have hMl : M.toList = Lib.strCells (ba (List.replicate k 0)) := by
    rw [hM, hz1, strCells_zeros]
    show (madeCells #[Value.int .u8 0] ((k : Int).toNat * 1)).toList = _
    rw [toList_madeCells_one]
    simp
  have hMs : M.size = k * 1 := by rw [hM, size_madeCells, hz1]; simp
  have hown0 : (w.alloc (.cells M 5)).ownsRow w.heap.size 5 1 (.slice (some ⟨w.heap.size, 0, none⟩) k k) (List.replicate k (0 : UInt8)).length (Lib.strCells (ba (List.replicate k 0))) := by
    rw [← hMl, List.length_replicate]
    exact World.ownsRow_lit w M k (Nat.le_refl _) (by unfold maxLen; omega) hMs
  have hcv := brow_text hown0
  clear hM hMl hMs hown0
  go_enter Try.func29, Try.ntmps29
  go_wp2_with fail
  go_ret
  exact ⟨_, rfl, by rw [ba_size, List.length_replicate], below_alloc1 _ _⟩

theorem secsL_rep (t : ByteArray) (i : Nat) : secsL ((⟨#[]⟩ : ByteArray) :: List.replicate i t) = 1 + i * secs t := by
  induction i with
  | zero => rw [Nat.zero_mul]; rfl
  | succ i ih =>
    rw [List.replicate_succ]
    simp only [secsL] at *
    rw [Nat.succ_mul]
    have : secs (⟨#[]⟩ : ByteArray) = 1 := rfl
    omega

set_option maxHeartbeats 6400000 in
set_option maxRecDepth 100000 in
theorem logFull_any (sx sy : Int) (w : World) (hx : -9223372036854775808 ≤ sx ∧ sx ≤ 9223372036854775807) (hy : -9223372036854775808 ≤ sy ∧ sy ≤ 9223372036854775807) :
    Calls Try.prog 7 #[.int .i64 sx, .int .i64 sy] w fun e w' => e = .returned (.bool true) ∧ Below w.heap.size w w' := by
  go_enter Try.func7, Try.ntmps7
  go_wp2_with fail
  refine (modB_any sx 60 _ hx.1 hx.2 (by omega) (by omega)).mono ?_
  rintro e w1 ⟨n0, rfl, hn0, e1⟩
  rw [e1]
  go_wp2_with fail
  refine (modB_any sy 1200 _ hy.1 hy.2 (by omega) (by omega)).mono ?_
  rintro e w2 ⟨k, rfl, hk, e2⟩
  rw [e2]
  go_wp2_with fail
  obtain ⟨n, hn⟩ : ∃ n, n = 8 + n0 := ⟨_, rfl⟩
  rw [show (8 : Int) + (n0 : Int) = (n : Int) by omega]
  have hn8 : 8 ≤ n ∧ n ≤ 67 := by omega
  clear hn hn0 e1 e2 hx hy
  refine (new_any n w (by omega) (by omega)).mono ?_
  rintro e w3 ⟨g, gs, rfl, d3, b3⟩
  go_wp2_with fail
  refine (play_format d3 b3 (by omega) (by omega) ⟨#[]⟩ (by show 1 ≤ areaN n; unfold areaN; omega)).mono ?_
  rintro e w4 ⟨lb, rfl, l4⟩
  clear d3 b3
  go_wp2_with fail
  refine (zeros_any k w4 (by omega)).mono ?_
  rintro e w5 ⟨t, rfl, ht, b5⟩
  have l5 := (l4.below b5).less (Y := fun _ => False) (fun k x => x.elim)
  clear l4 b5
  obtain ⟨ea, hea⟩ : ∃ ea, ea = secs t := ⟨_, rfl⟩
  have hea2 : ea = k / 500 + 1 := by rw [hea, secs, ht]
  have hq1 : (k : Int).tdiv 500 + 1 = (ea : Int) := by rw [Int.tdiv_eq_ediv_of_nonneg (by omega)]; omega
  obtain ⟨A, hA⟩ : ∃ A, A = areaN n := ⟨_, rfl⟩
  have hA1 : ((n : Int) - 4).tdiv 2 = (A : Int) := by rw [Int.tdiv_eq_ediv_of_nonneg (by omega), hA]; unfold areaN; omega
  have hA2 : 2 ≤ A ∧ A ≤ 31 := by rw [hA]; unfold areaN; omega
  have hea3 : 1 ≤ ea ∧ ea ≤ 3 := by omega
  obtain ⟨wt, hwt⟩ : ∃ wt, wt = (A - 1) / ea := ⟨_, rfl⟩
  obtain ⟨p, hp⟩ : ∃ p, p = wt * ea := ⟨_, rfl⟩
  have hp1 : p ≤ A - 1 := by rw [hp, hwt]; exact Nat.div_mul_le_self _ _
  have hp2 : A - 1 < p + ea := by
    have h1 := Nat.div_add_mod (A - 1) ea
    have h2 := Nat.mod_lt (A - 1) (show 0 < ea by omega)
    rw [← hwt, Nat.mul_comm, ← hp] at h1
    omega
  have hwt2 : wt ≤ 31 := by
    have : wt * 1 ≤ wt * ea := Nat.mul_le_mul_left _ (by omega)
    omega
  have hq2 : ((A : Int) - 1).tdiv (ea : Int) = (wt : Int) := by
    rw [show (A : Int) - 1 = ((A - 1 : Nat) : Int) by omega, Int.tdiv_eq_ediv_of_nonneg (by omega), hwt]
    omega
  have hpI : (wt : Int) * (ea : Int) = (p : Int) := by rw [hp]; omega
  have hz : ((ea : Int) == 0) = false := by rw [beq_eq_false_iff_ne]; omega
  have hm1 : ((ea : Int) == -1) = false := by rw [beq_eq_false_iff_ne]; omega
  have HS : Hid (secs t = ea ∧ areaN n = A ∧ p = wt * ea) := ⟨hea.symm, hA.symm, hp⟩
  have hb0 : secs (⟨#[]⟩ : ByteArray) + 5 = 6 := rfl
  rw [hb0] at l5
  have hkI : (k : Int) / 500 + 1 = (ea : Int) := by omega
  clear hea hea2 hA hwt hp hb0 ht hq1
  go_wp2_with fail
  clear hkI
  go_loopw [13] (fun sr wr => ∃ (rd b : Nat) (Q : List ByteArray → Prop), rd ≤ 3 ∧ sr = .int .i64 (rd : Int) ∧ b ≤ 10 + 300 * rd ∧ Lw w wr lb g gs n b ⟨#[]⟩ [] Q (fun _ => False)) (fun sr _ => 3 - (intOf sr).toNat)
  case atStart => exact ⟨0, 6, _, Nat.zero_le _, rfl, by omega, l5⟩
  case round =>
    clear l5
    obtain ⟨rd, b, Q, hrd, rfl, hb, lr⟩ := hrel
    by_cases hlt : rd < 3
    · have hlt2 : (rd : Int) < 3 := by omega
      go_wp2_with fail
      go_loopw [15] (fun si wr => ∃ (i b : Nat) (Q : List ByteArray → Prop), i ≤ wt ∧ si = .int .i64 (i : Int) ∧ b ≤ 10 + 300 * rd + 7 * i ∧ Lw w wr lb g gs n b ⟨#[]⟩ (List.replicate i t) Q (fun _ => False)) (fun si _ => wt - (intOf si).toNat)
      case atStart => exact ⟨0, b, Q, Nat.zero_le _, rfl, by omega, lr⟩
      case round =>
        clear lr hb
        obtain ⟨i, b, Q, hi, rfl, hb, li⟩ := hrel
        have hsL := secsL_rep t i
        rw [HS.out.1] at hsL
        by_cases hiw : i < wt
        · have hiw2 : (i : Int) < (wt : Int) := by omega
          have hroom : secsL ((⟨#[]⟩ : ByteArray) :: List.replicate i t) + secs t ≤ areaN n := by
            rw [hsL, HS.out.1, HS.out.2.1]
            have h1 : (i + 1) * ea ≤ wt * ea := Nat.mul_le_mul_right _ hiw
            rw [← HS.out.2.2, Nat.succ_mul] at h1
            omega
          have cAp := play_append li t hroom (by rw [HS.out.1]; omega)
          rw [HS.out.1, show List.replicate i t ++ [t] = List.replicate (i + 1) t from List.replicate_succ'.symm] at cAp
          clear hroom hsL
          go_wp2_with fail
          refine cAp.mono ?_
          rintro e w6 ⟨rfl, l6, _⟩
          go_wp2_with fail
          go_roundw
          case rel => exact ⟨i + 1, _, _, by omega, by go_num, by omega, l6⟩
          case measure => simp [intOf]; omega
        · obtain rfl : i = wt := by omega
          have hfull : areaN n < secsL ((⟨#[]⟩ : ByteArray) :: List.replicate i t) + secs t := by
            rw [hsL, HS.out.1, HS.out.2.1, ← HS.out.2.2]
            omega
          have hts : t.size ≤ 1000000000 := by have := HS.out.1; unfold secs at this; omega
          have cFu := play_append_full li t hts hfull
          clear hfull hts
          go_wp2_with fail
          refine cFu.mono ?_
          rintro e w6 ⟨rfl, b6⟩
          have l6 := (li.below b6).less (Y := fun _ => False) (fun k x => x.elim)
          go_wp2_with fail
          refine (play_records l6).mono ?_
          rintro e w7 ⟨v7, rfl, r7, b7⟩
          have l7 := (l6.below b7).less (Y := fun _ => False) (fun k x => x.elim)
          obtain ⟨a7, c7, rfl⟩ := r7.len
          rw [List.length_replicate]
          have cRo := play_room l7
          rw [hsL, HS.out.2.1, ← HS.out.2.2] at cRo
          clear hsL
          go_wp2_with fail
          refine cRo.mono ?_
          rintro e w8 ⟨rfl, b8⟩
          have l8 := (l7.below b8).less (Y := fun _ => False) (fun k x => x.elim)
          have hrI : ((A - (1 + p) : Nat) : Int) = (A : Int) - 1 - (p : Int) := by omega
          rw [hrI]
          go_wp2_with fail
          refine (play_replace l8 ⟨#[]⟩ (by show 1 ≤ areaN n; have := HS.out.2.1; omega) (by show b + 1 + 4 ≤ 100000; omega)).mono ?_
          rintro e w9 ⟨rfl, l9, _⟩
          go_wp2_with fail
          refine (play_records l9).mono ?_
          rintro e w10 ⟨v10, rfl, r10, b10⟩
          have l10 := (l9.below b10).less (Y := fun _ => False) (fun k x => x.elim)
          obtain ⟨a10, c10, rfl⟩ := r10.len
          rw [List.length_nil]
          go_wp2_with fail
          go_roundw
          case rel => exact ⟨rd + 1, _, _, by omega, by go_num, by show b + (1 + 4) ≤ 10 + 300 * (rd + 1); omega, l10⟩
          case measure => simp [intOf]; omega
    · obtain rfl : rd = 3 := by omega
      go_wp2_with fail
      refine (wakes_any _).mono ?_
      rintro e w6 ⟨rfl, b6⟩
      go_wp2_with fail
      go_ret
      exact ⟨rfl, below2 lr.bel b6⟩

end Go.Proofs.Ytlapgalefpenbaa

/- TreeFull: the walk. -/
import Derived.Test.YtkfoddblgdmabaaTrLaw
import Derived.Test.YtkfoddblgdmabaaTrArgs
import Derived.Test.YtkfoddblgdmabaaTrLook
import Derived.Laws.BytesArg
namespace Go.Proofs.Ytkfoddblgdmabaa.tr
open Go.RowKit

theorem tmod_mod (k : Int) (n : Nat) (hn : 1 ≤ n) : ∃ r : Nat, r < n ∧ (k.tmod n + n).tmod n = (r : Int) ∧ -(n : Int) < k.tmod n ∧ k.tmod n < n := by
  have h1 : k.tmod n < n := Int.tmod_lt_of_pos _ (by omega)
  have h2 : -(n : Int) < k.tmod n := Int.lt_tmod_of_pos k (b := (n : Int)) (by omega)
  refine ⟨((k.tmod n + n).tmod n).toNat, ?_, ?_, h2, h1⟩
  · have h3 : (k.tmod n + n).tmod n < n := Int.tmod_lt_of_pos _ (by omega)
    have h4 : 0 ≤ (k.tmod n + n).tmod n := Int.tmod_nonneg _ (by omega)
    omega
  · have h4 : 0 ≤ (k.tmod n + n).tmod n := Int.tmod_nonneg _ (by omega)
    omega
set_option maxHeartbeats 400000 in
/-- Mod, the same in every world. -/
theorem mod_all (k : Int) (n : Nat) (_h : i64B k) (hn : 1 ≤ n) (hn2 : n ≤ 100000) : ∃ r : Nat, r < n ∧ ∀ w, Calls Try.prog 23 #[.int .i64 k, .int .i64 (n : Int)] w fun e w' => e = .returned (.int .i64 (r : Int)) ∧ w' = w := by
  obtain ⟨r, hr, he, b1, b2⟩ := tmod_mod k n hn
  refine ⟨r, hr, fun w => ?_⟩
  have hz : ((n : Int) == 0) = false := by rw [beq_eq_false_iff_ne]; omega
  have hm1 : ((n : Int) == -1) = false := by rw [beq_eq_false_iff_ne]; omega
  have hlt : decide ((n : Int) < 1) = false := by simp; omega
  generalize hq : k.tmod (n : Int) = q at *
  go_enter Try.func23, Try.ntmps23
  go_wp2_with fail
  go_ret
  exact ⟨rfl, rfl⟩

theorem conv2 (a b : Nat) (W : World) : (convert 61 9 (.slice (some ⟨W.heap.size, 0, none⟩) 2 2)).run Try.prog (W.alloc (.cells #[.int .u8 (a : Int), .int .u8 (b : Int)] 5)) = .ok (.string ⟨#[UInt8.ofNat a, UInt8.ofNat b]⟩) (W.alloc (.cells #[.int .u8 (a : Int), .int .u8 (b : Int)] 5)) := by
  have h := heap_alloc_new W (.cells #[.int .u8 (a : Int), .int .u8 (b : Int)] 5)
  have e := run_convert_bytes_arg (P := Try.prog) (W.alloc (.cells #[.int .u8 (a : Int), .int .u8 (b : Int)] 5)) 61 5 Try.underlying61 Try.underlying5 W.heap.size 0 2 2 [(a : Int), (b : Int)] rfl (fun i hi => by
    rw [Nat.zero_add, (cell_obj h).1]
    match i, hi with
    | 0, _ => rfl
    | 1, _ => rfl) 9 Try.underlying9
  rw [e]
  simp [strOfNums]

theorem and63' : ∀ q : Nat, q < 64 → ∀ m : Nat, m < 64 → bits .and .i64 ((q * 64 + m : Nat) : Int) 63 = (m : Int) := by decide +kernel
theorem and63 (i : Nat) (h : i < 4096) : bits .and .i64 (i : Int) 63 = ((i % 64 : Nat) : Int) := by
  have := and63' (i / 64) (by omega) (i % 64) (by omega)
  rwa [show i / 64 * 64 + i % 64 = i by omega] at this
theorem conv5 (W : World) : (convert 61 9 (.slice (some ⟨W.heap.size, 0, none⟩) 2 2)).run Try.prog (W.alloc (.cells #[.int .u8 0, .int .u8 5] 5)) = .ok (.string (kf 5)) (W.alloc (.cells #[.int .u8 0, .int .u8 5] 5)) := conv2 0 5 W
theorem conv6 (W : World) : (convert 61 9 (.slice (some ⟨W.heap.size, 0, none⟩) 2 2)).run Try.prog (W.alloc (.cells #[.int .u8 0, .int .u8 6] 5)) = .ok (.string (kf 6)) (W.alloc (.cells #[.int .u8 0, .int .u8 6] 5)) := conv2 0 6 W
/-- A tree in memory, made behind a world. -/
structure Tw (W w : World) (tb f : Nat) (L : List Ent) : Prop where
  ex : ∃ M, Te w W.heap.size tb f M L
  bel : Below W.heap.size W w
theorem Tw.below {W w w' : World} {tb f : Nat} {L : List Ent} (x : Tw W w tb f L) (h : Below w.heap.size w w') : Tw W w' tb f L := by
  obtain ⟨M, t⟩ := x.ex
  exact ⟨⟨M, t.below h⟩, x.bel.trans (h.mono x.bel.size)⟩
theorem Tw.put {W w : World} {tb f : Nat} {L : List Ent} (x : Tw W w tb f L) (key : ByteArray) (z : Int) (hk : key.size ≤ 281474976710656) {p1 : Bool} {p2 : Int} {L' : List Ent} (hp : putT key z L = (p1, p2, L')) : Calls Try.prog 12 #[.pointer (some ⟨tb, 0, none⟩), .string key, .int .i64 z] w fun e w' => e = .returned (.tuple #[.bool p1, .int .i64 p2]) ∧ Tw W w' tb f L' := by
  obtain ⟨M, t⟩ := x.ex
  have h := put_any t key z hk
  rw [hp] at h
  refine h.mono ?_
  rintro e w' ⟨he, M', t', to⟩
  exact ⟨he, ⟨⟨M', t'⟩, x.bel.trans (to.below t)⟩⟩

set_option maxHeartbeats 6400000 in
set_option maxRecDepth 100000 in
theorem full_on (fan n : Int) (W : World) (hf : i64B fan) :
    Calls Try.prog 7 #[.int .i64 fan, .int .i64 n] W fun e w' => e = .returned (.bool true) ∧ Below W.heap.size W w' := by
  obtain ⟨r, hr, cM⟩ := mod_all fan 62 hf (by decide) (by decide)
  obtain ⟨f, hf2⟩ : ∃ f, 3 + r = f := ⟨_, rfl⟩
  have hf3 : (3 : Int) + (r : Int) = (f : Int) := by omega
  have cN := new_any W f (by omega) (by omega)
  have hr2 : (r : Int) ≤ 61 := by omega
  clear hf
  go_enter Try.func7, Try.ntmps7
  go_wp2_with fail
  refine (cM W).mono ?_
  rintro e w1 ⟨rfl, hw⟩
  rw [hw]
  clear hw w1 cM
  go_wp2_with fail
  refine cN.mono ?_
  rintro e w1 ⟨tb, M, rfl, t1, h1⟩
  have HT : Hid (Tw W w1 tb f (fl 0)) := ⟨⟨M, t1⟩, h1⟩
  clear t1 h1 cN
  go_wp2_with fail
  go_loopw [7] (fun si wr => ∃ i : Nat, i ≤ 4096 ∧ si = .int .i64 (i : Int) ∧ Hid (Tw W wr tb f (fl i))) (fun si _ => 4096 - (Go.RowKit.intOf si).toNat)
  case atStart => exact ⟨0, Nat.zero_le _, rfl, HT.out⟩
  case round =>
    clear HT
    obtain ⟨i, hi, rfl, ht⟩ := hrel
    by_cases hlt : i < 4096
    · have hlt2 : (i : Int) < 4096 := by omega
      obtain ⟨a, ha⟩ : ∃ a, i / 64 = a := ⟨_, rfl⟩
      obtain ⟨m, hm⟩ : ∃ m, i % 64 = m := ⟨_, rfl⟩
      have q1 : (i : Int) / 64 = (a : Int) := by omega
      have q2 : bits .and .i64 (i : Int) 63 = (m : Int) := by rw [and63 i hlt, hm]
      have q3 : (m : Int) % 256 = (m : Int) := by omega
      have q4 : (a : Int) ≤ 63 := by omega
      have q5 : (m : Int) ≤ 63 := by omega
      have hkf : kf i = ⟨#[UInt8.ofNat a, UInt8.ofNat m]⟩ := by unfold kf; rw [ha, hm]
      have cv := conv2 a m wr
      have ht2 := ht.out.below (below_alloc1 wr (.cells #[.int .u8 (a : Int), .int .u8 (m : Int)] 5))
      have cP := ht2.put (kf i) i (by show 2 ≤ _; decide) (fl_put hlt)
      rw [hkf] at cP
      clear ht2 ha hm hkf
      go_wp2_with fail
      refine cP.mono ?_
      rintro e w4 ⟨rfl, t4⟩
      have HT4 := (show Hid _ from t4)
      clear cP t4 cv q1 q2 q3
      go_wp2_with fail
      go_roundw
      case rel => exact ⟨i + 1, by omega, by go_num, HT4.out⟩
      case measure => simp [Go.RowKit.intOf]; omega
    · obtain rfl : i = 4096 := by omega
      have cP := ht.out.put kM n (by show 4 ≤ _; decide) (fl_more n)
      obtain ⟨L, hL1, hL2, hL3, hL4, hL5, hL6⟩ := fl_again n
      have HL := (show Hid _ from And.intro hL2 (And.intro hL3 (And.intro hL4 (And.intro hL5 hL6))))
      have HL1 := (show Hid _ from hL1)
      clear hL1 hL2 hL3 hL4 hL5 hL6 ht
      go_wp2_with fail
      refine cP.mono ?_
      rintro e w4 ⟨rfl, t4⟩
      have cv := conv5 w4
      have cQ := (t4.below (below_alloc1 w4 (.cells #[.int .u8 0, .int .u8 5] 5))).put (kf 5) n (by show 2 ≤ _; decide) HL1.out
      clear cP t4
      go_wp2_with fail
      refine cQ.mono ?_
      rintro e w5 ⟨rfl, t5⟩
      have cv5 := conv5 w5
      have t6 := t5.below (below_alloc1 w5 (.cells #[.int .u8 0, .int .u8 5] 5))
      obtain ⟨M6, te6⟩ := t6.ex
      have cG := get_any te6 (kf 5)
      rw [HL.out.2.2.1, HL.out.2.2.2.1] at cG
      have HB6 := (show Hid _ from t6)
      clear cQ cv t5 t6 te6
      go_wp2_with fail
      refine cG.mono ?_
      rintro e w7 ⟨rfl, h7⟩
      have HT7 := (show Hid _ from HB6.out.below h7)
      obtain ⟨M7, te7⟩ := HT7.out.ex
      have cL := len_any te7
      rw [HL.out.2.1] at cL
      clear cG cv5 h7 HB6 te7
      go_wp2_with fail
      refine cL.mono ?_
      rintro e w8 ⟨rfl, h8⟩
      rw [h8]
      clear h8 w8 cL
      have cv6 := conv6 w7
      have t8 := HT7.out.below (below_alloc1 w7 (.cells #[.int .u8 0, .int .u8 6] 5))
      obtain ⟨M8, te8⟩ := t8.ex
      have cD := delete_any te8 (kf 6)
      rw [HL.out.2.2.2.2] at cD
      have HB8 : Hid (Below W.heap.size W (w7.alloc (.cells #[.int .u8 0, .int .u8 6] 5))) := t8.bel
      have HT8 := (show Hid _ from te8)
      have hdl : (delL (kf 6) L).length = 4095 := by
        have := delL_len (kf 6) L HL.out.1
        rw [HL.out.2.2.2.2, HL.out.2.1] at this
        simpa using this
      clear t8 te8
      go_wp2_with fail
      refine cD.mono ?_
      rintro e w9 ⟨rfl, M9, te9, to9⟩
      have HB9 : Hid (Below W.heap.size W w9) := HB8.out.trans (to9.below HT8.out)
      have cL := len_any te9
      rw [hdl] at cL
      clear cD cv6 te9 to9 HB8 HT8 hdl
      go_wp2_with fail
      refine cL.mono ?_
      rintro e w10 ⟨rfl, h10⟩
      rw [h10]
      clear h10 w10 cL
      have cW := wakes_any w9
      go_wp2_with fail
      refine cW.mono ?_
      rintro e w11 ⟨rfl, h11⟩
      go_wp2_with fail
      go_ret
      exact ⟨rfl, HB9.out.trans (h11.mono HB9.out.size)⟩

theorem treeFull_on (fan n : Int) (W : World) (hf : i64B fan) (_hn : i64B n) : Calls Try.prog 7 #[.int .i64 fan, .int .i64 n] W fun e w' => e = .returned (.bool true) ∧ Below W.heap.size W w' := full_on fan n W hf

end Go.Proofs.Ytkfoddblgdmabaa.tr

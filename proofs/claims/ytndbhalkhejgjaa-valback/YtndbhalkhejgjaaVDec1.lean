/- The contract of val.Decode, of one kind. -/
import Derived.Test.YtndbhalkhejgjaaVDecBase
namespace Go.Proofs.Ytndbhalkhejgjaa
open Go.RowKit
attribute [local go_sem ↓] Go.wp_at_zero Go.wp_at_succ

set_option maxHeartbeats 1600000 in
set_option maxRecDepth 100000 in
theorem decode_1 (s : ByteArray) (p : Nat) (w : World) (hp : p < s.size) (hs : s.size ≤ 281474976710656) (hc : bt s p = 1) (k n : Int) (S : ByteArray) (j : Nat) (B : Bool) (hj : j ≤ 281474976710656)
    (HG : ∀ w, Calls Try.prog 60 #[.string (rest s (p + 1))] w fun e w' => e = .returned (.tuple #[.agg #[.int .i64 k, .int .i64 n, .string S], .int .i64 (j : Int), .bool B]) ∧ Below w.heap.size w w') :
    Calls Try.prog 17 #[.string s, .int .i64 (p : Int)] w fun e w' => e = .returned (gotW (if B = true then (⟨k, n, S⟩, 1 + j, true) else (noV, 0, false))) ∧ Below w.heap.size w w' := by
  have cK := fun w => kinds_S 1 w
  rw [show kindV 1 = .agg #[.func (.func 58) #[] #[], .func (.func 59) #[] #[], .func (.func 60) #[] #[]] from rfl, show (decide ((0 : Int) ≤ 1) && decide ((1 : Int) ≤ 3)) = true from rfl] at cK
  have hb := bt_eq s p hp
  rw [hc] at hb
  have hR := fun W => run_rest s p hp W
  have hw := wrap_succ p (by omega)
  have hwc : IntKind.i64.wrap 1 = 1 := by rw [IntKind.wrap_i64]; rfl
  have h0 : (0 : Int) ≤ (p : Int) := by omega
  have h1 : (p : Int) < (s.size : Int) := by omega
  generalize rest s (p + 1) = R at *
  clear hc
  go_enter Try.func17, Try.ntmps17
  go_upto_region 3 with fail
  go_cut [7, 6] (fun s7 s6 wx => ∃ b, s7 = .pointer (some ⟨b, 0, none⟩) ∧ s6 = .bool true ∧ AK (w.alloc (.cells #[.int .i64 0, .int .i64 0, .string ⟨#[]⟩] 23)) wx b (.func (.func 58) #[] #[]) (.func (.func 59) #[] #[]) (.func (.func 60) #[] #[]))
  case first =>
    go_region_held3 (fun _ => True) (trivial) ((go_at_call 37; refine (cK _).mono ?_; rintro e w1 ⟨b, rfl, hb1, hz1, hl1, hl2⟩; obtain ⟨hc1, hf1⟩ := bcell hb1))
    all_goals go_wp2_with fail
    all_goals go_meet
    all_goals first | exact ⟨_, rfl, rfl, ak_late hb1⟩ | exact ⟨_, rfl, rfl, ak_early (by simp) hb1⟩
  case rest =>
    obtain ⟨b, rfl, rfl, hak⟩ := hcut
    have q2 := hak.c2
    have hb0 := hak.below
    have hlt := hak.lt
    have hsz : w.heap.size < wc.heap.size := by have := hb0.size; simp at this; omega
    obtain ⟨kc, kf⟩ := bcell hb0
    have k0 := kc w.heap.size 0 (by simp)
    have k1 := kc w.heap.size 1 (by simp)
    have k2 := kc w.heap.size 2 (by simp)
    have z0 := kf w.heap.size 0 (by simp)
    have z1 := kf w.heap.size 1 (by simp)
    have z2 := kf w.heap.size 2 (by simp)
    simp at k0 k1 k2 z0 z1 z2
    clear hak cK kc kf
    obtain ⟨w5, rfl⟩ : ∃ w5, w5 = wc := ⟨_, rfl⟩
    go_upto_region 6 with fail
    go_cut [8, 5, 6] (fun s8 s5 s6 wx => ∃ d, s8 = .pointer (some ⟨d, 0, none⟩) ∧ s5 = .int .i64 (j : Int) ∧ s6 = .bool B ∧ AK w5 wx d (.int .i64 k) (.int .i64 n) (.string S))
    case first =>
      go_region_held3 (fun W => W.cell? ⟨b, 2, none⟩ = some (.func (.func 60) #[] #[])) (first | exact (hB.cell (p := ⟨b, 2, none⟩) hlt).trans q2 | exact (alloc_cell hbl).trans ((hB.cell (p := ⟨b, 2, none⟩) hlt).trans q2) | exact (alloc_cell hlt).trans q2 | exact (set3_cell hne).trans ((hB.cell (p := ⟨b, 2, none⟩) hlt).trans q2) | go_keep) ((go_at_call 60; refine (HG _).mono ?_; rintro e w1 ⟨rfl, hb1⟩; obtain ⟨hc1, hf1⟩ := bcell hb1; have hB : Below w5.heap.size w5 w1 := drew_below_any hb1 (by first | exact Or.inl rfl | exact Or.inr ⟨_, rfl⟩); have hbl : b < w1.heap.size := Nat.lt_of_lt_of_le hlt hB.size; have hne : b ≠ w5.heap.size := Nat.ne_of_lt hlt))
      all_goals go_wp2_with fail
      all_goals go_meet
      all_goals first | exact ⟨_, rfl, rfl, rfl, ak_late hb1⟩ | exact ⟨_, rfl, rfl, rfl, ak_early (by simp) hb1⟩
    case rest =>
      obtain ⟨d, rfl, rfl, rfl, hak⟩ := hcut
      have d0 := hak.c0
      have d1 := hak.c1
      have d2 := hak.c2
      have hb2 := hak.below
      obtain ⟨kc, kf⟩ := bcell hb2
      have k0' := (kc _ 0 hsz).trans k0
      have k1' := (kc _ 1 hsz).trans k1
      have k2' := (kc _ 2 hsz).trans k2
      have z0' := (kf _ 0 hsz).trans z0
      have z1' := (kf _ 1 hsz).trans z1
      have z2' := (kf _ 2 hsz).trans z2
      clear hak kc kf k0 k1 k2 z0 z1 z2 q2
      cases B with
      | true =>
        go_wp2_with fail
        exact bodyPost_ret (v := gotW (⟨k, n, S⟩, 1 + j, true)) (by simp [results, Try.results17, go_sem, gotW, k0', k1', k2']) rfl ⟨rfl, below_end hb0 hb2 _ _ _⟩
      | false =>
        go_wp2_with fail
        exact bodyPost_ret (v := gotW (noV, 0, false)) (by simp [results, Try.results17, go_sem, gotW, noV, k0', k1', k2']) rfl ⟨rfl, below_end hb0 hb2 _ _ _⟩

end Go.Proofs.Ytndbhalkhejgjaa

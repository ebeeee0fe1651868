/- The laws' own example answers true. -/
import Derived.Test.YtlapgalefpenbaaLPlay
namespace Go.Proofs.Ytlapgalefpenbaa
open Go.RowKit

set_option maxHeartbeats 3200000 in
set_option maxRecDepth 100000 in
theorem wakes_any (w : World) : Calls Try.prog 10 #[] w fun e w' => e = .returned (.bool true) ∧ Below w.heap.size w w' := by
  have cN := new_any 32 w (by omega) (by omega)
  obtain ⟨tb, htb⟩ : ∃ tb : ByteArray, tb = ⟨#[98, 97, 115, 101]⟩ := ⟨_, rfl⟩
  obtain ⟨t1, ht1⟩ : ∃ t1 : ByteArray, t1 = ⟨#[111, 110, 101]⟩ := ⟨_, rfl⟩
  have s1 : secs tb = 1 := by rw [htb]; rfl
  have s2 : secs t1 = 1 := by rw [ht1]; rfl
  have sL : secsL [tb] = 1 := by show secs tb + 0 = 1; rw [s1]
  have hA : areaN 32 = 14 := rfl
  go_enter Try.func10, Try.ntmps10
  go_wp2_with fail
  refine cN.mono ?_
  rintro e w1 ⟨g, gs, rfl, d1, b1⟩
  go_wp2_with fail
  rw [← htb]
  refine (play_format d1 b1 (by omega) (by omega) tb (by rw [hA]; omega)).mono ?_
  rintro e w2 ⟨lb, rfl, l2⟩
  go_wp2_with fail
  rw [← ht1]
  refine (play_append l2 t1 (by rw [sL, hA]; omega) (by omega)).mono ?_
  rintro e w3 ⟨rfl, l3, _⟩
  go_wp2_with fail
  refine (play_flush l3 (by omega)).mono ?_
  rintro e w4 ⟨rfl, l4, _⟩
  go_wp2_with fail
  refine (play_crash l4 (by omega) [] none 0 (Or.inl rfl) (by intro b off h; cases h)).mono ?_
  rintro e w5 ⟨rfl, d5, _⟩
  go_wp2_with fail
  refine (play_open d5 (by omega)).mono ?_
  rintro e w6 ⟨mb, base, recs, rfl, hT, l6, _⟩
  have hT2 : base = tb ∧ recs = [t1] := by
    rcases hT with h | h
    · injection h with h1 h2
      exact ⟨h1, h2⟩
    · exact h.elim
  obtain ⟨rfl, rfl⟩ := hT2
  go_wp2_with fail
  refine (play_base l6).mono ?_
  rintro e w7 ⟨rfl, b7⟩
  have l7 := l6.below b7
  subst htb
  go_wp2_with fail
  refine (play_records l7).mono ?_
  rintro e w8 ⟨v8, rfl, r8, b8⟩
  have l8 := l7.below b8
  obtain ⟨a8, c8, rfl⟩ := r8.len
  go_wp2_with fail
  refine (play_records l8).mono ?_
  rintro e w9 ⟨v9, rfl, r9, b9⟩
  have l9 := l8.below b9
  obtain ⟨bl, o, cap, rfl, _, cx⟩ := r9.cell (i := 0) (x := t1) rfl
  rw [Nat.add_zero] at cx
  subst ht1
  go_wp2_with fail
  go_ret
  exact ⟨rfl, l9.bel⟩

end Go.Proofs.Ytlapgalefpenbaa

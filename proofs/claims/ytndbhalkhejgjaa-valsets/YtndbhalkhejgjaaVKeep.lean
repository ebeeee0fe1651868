/- The contracts of the statements' own helpers LargeProps, few, Props. -/
import Derived.Test.YtndbhalkhejgjaaVOpen
import Derived.Test.YtndbhalkhejgjaaVSet
namespace Go.Proofs.Ytndbhalkhejgjaa
open Go.RowKit
attribute [local go_sem ↓] Go.wp_at_zero Go.wp_at_succ

/-- Are properties too long to be gone through? -/
def largeB (p : Pr) : Bool := decide (1000 < p.name.size) || decide (5000 < p.v.s.size)
def largeL (L : List Pr) : Bool := decide (60 < L.length) || L.any largeB

theorem largeValue_at (k n : Int) (s : ByteArray) (w : World) : Calls Try.prog 9 #[.agg #[.int .i64 k, .int .i64 n, .string s]] w fun e w' => e = .returned (.bool (decide (5000 < s.size))) ∧ Below w.heap.size w w' :=
  largeValue_any ⟨k, n, s⟩ w _ rfl

set_option maxHeartbeats 800000 in
set_option maxRecDepth 100000 in
theorem largeProps_some (L : List Pr) (b off cap : Nat) (w : World) (hb : b < w.heap.size) (hr : Rd w b off L) (hlen : L.length ≤ 60) :
    Calls Try.prog 22 #[.slice (some ⟨b, off, none⟩) L.length cap] w fun e w' => e = .returned (.bool (L.any largeB)) ∧ Below w.heap.size w w' := by
  have hl8 : ¬ (60 : Int) < (L.length : Int) := by omega
  go_enter Try.func22, Try.ntmps22
  go_wp2_with fail
  clear hl8
  go_loopw [3] (fun si wr => ∃ k : Nat, k ≤ L.length ∧ si = .int .i64 (k : Int) ∧ Hid ((L.drop k).any largeB = L.any largeB) ∧ Below w.heap.size w wr) (fun si _ => L.length - (intOf si).toNat)
  case atStart => exact ⟨0, Nat.zero_le _, rfl, rfl, Below.refl _ _⟩
  case round =>
    obtain ⟨k, hk, rfl, HL, hbl⟩ := hrel
    by_cases hlt : k < L.length
    · obtain ⟨e0, e1, e2, e3⟩ := (hr.kept hbl hb) k L[k] (by simp [hlt])
      have HL2 : Hid ((largeB L[k] || (L.drop (k + 1)).any largeB) = L.any largeB) := by rw [← HL.out, drop_cons_l L k hlt]; rfl
      clear HL
      generalize L[k] = q at *
      obtain ⟨m, kk, n, s⟩ := q
      simp only [largeB] at *
      have cL := fun w => largeValue_at kk n s w
      by_cases hm : 1000 < m.size
      · have hm' : (1000 : Int) < (m.size : Int) := by omega
        have HF : Hid (L.any largeB = true) := by rw [← HL2.out]; unfold Hid; simp [hm]
        clear HL2 hm
        go_wp2_with fail
        go_ret
        exact ⟨by rw [HF.out]; rfl, hbl⟩
      · have hm' : ¬ (1000 : Int) < (m.size : Int) := by omega
        by_cases hs : 5000 < s.size
        · have HF : Hid (L.any largeB = true) := by rw [← HL2.out]; unfold Hid; simp [hs]
          rw [decide_eq_true hs] at cL
          clear HL2 hm hs
          go_wp2_with fail
          refine (cL _).mono ?_
          rintro e w1 ⟨rfl, hb1⟩
          go_wp2_with fail
          go_ret
          exact ⟨by rw [HF.out]; rfl, below2 hbl hb1⟩
        · have HF : Hid ((L.drop (k + 1)).any largeB = L.any largeB) := by rw [← HL2.out]; unfold Hid; simp [hm, hs]
          rw [decide_eq_false hs] at cL
          clear HL2 hm hs
          go_wp2_with fail
          refine (cL _).mono ?_
          rintro e w1 ⟨rfl, hb1⟩
          go_wp2_with fail
          go_roundw
          case rel => exact ⟨k + 1, by omega, by go_num, HF, below2 hbl hb1⟩
          case measure => simp [intOf]; omega
    · have HF : Hid (L.any largeB = false) := by rw [← HL.out, List.drop_of_length_le (by omega)]; rfl
      clear HL
      go_wp2_with fail
      go_ret
      exact ⟨by rw [HF.out]; rfl, hbl⟩

set_option maxHeartbeats 400000 in
set_option maxRecDepth 100000 in
theorem largeProps_none (a : Option Addr) (cap : Nat) (w : World) : Calls Try.prog 22 #[.slice a 0 cap] w fun e w' => e = .returned (.bool false) ∧ Below w.heap.size w w' := by
  go_enter Try.func22, Try.ntmps22
  go_wp2_with fail
  refine wp_loop_rounds 1 ?_
  rw [rounds_succ]
  go_wp2_with fail
  go_ret
  exact ⟨rfl, Below.refl _ _⟩

set_option maxHeartbeats 400000 in
set_option maxRecDepth 100000 in
theorem largeProps_many (a : Option Addr) (n cap : Nat) (w : World) (h : 60 < n) : Calls Try.prog 22 #[.slice a n cap] w fun e w' => e = .returned (.bool true) ∧ Below w.heap.size w w' := by
  have h' : (60 : Int) < (n : Int) := by omega
  go_enter Try.func22, Try.ntmps22
  go_wp2_with fail
  go_ret
  exact ⟨rfl, Below.refl _ _⟩

theorem largeProps_any (L : List Pr) (a : Option Addr) (cap : Nat) (w : World) (h : Sl w a L) : Calls Try.prog 22 #[.slice a L.length cap] w fun e w' => e = .returned (.bool (largeL L)) ∧ Below w.heap.size w w' := by
  by_cases h6 : 60 < L.length
  · rw [show largeL L = true by simp [largeL, h6]]
    exact largeProps_many a L.length cap w h6
  · rw [show largeL L = L.any largeB by simp [largeL, h6]]
    rcases h with rfl | ⟨b, off, rfl, hb, hr⟩
    · exact largeProps_none a cap w
    · exact largeProps_some L b off cap w hb hr (by omega)

theorem largeL_no {L : List Pr} (h : largeL L = false) : L.length ≤ 60 ∧ ∀ p ∈ L, p.name.size ≤ 1000 ∧ p.v.s.size ≤ 5000 := by
  simp only [largeL, Bool.or_eq_false_iff, decide_eq_false_iff_not, List.any_eq_false] at h
  refine ⟨by omega, fun p hp => ?_⟩
  have := h.2 p hp
  simp [largeB] at this
  omega

set_option maxHeartbeats 800000 in
set_option maxRecDepth 100000 in
theorem keepProps_some (L : List Pr) (b off cap b' off' cap' : Nat) (w : World) (hb : b < w.heap.size) (hr : Rd w b off L) (hb' : b' < w.heap.size) (hr' : Rd w b' off' L) (hlen : L.length ≤ 1000000) :
    Calls Try.prog 30 #[.slice (some ⟨b, off, none⟩) L.length cap, .slice (some ⟨b', off', none⟩) L.length cap'] w fun e w' => e = .returned (.bool true) ∧ Below w.heap.size w w' := by
  go_enter Try.func30, Try.ntmps30
  go_wp2_with fail
  go_loopw [5] (fun si wr => ∃ k : Nat, k ≤ L.length ∧ si = .int .i64 (k : Int) ∧ Below w.heap.size w wr) (fun si _ => L.length - (intOf si).toNat)
  case atStart => exact ⟨0, Nat.zero_le _, rfl, Below.refl _ _⟩
  case round =>
    obtain ⟨k, hk, rfl, hbl⟩ := hrel
    by_cases hlt : k < L.length
    · obtain ⟨e0, e1, e2, e3⟩ := (hr.kept hbl hb) k L[k] (by simp [hlt])
      obtain ⟨g0, g1, g2, g3⟩ := (hr'.kept hbl hb') k L[k] (by simp [hlt])
      have cV := fun w => keepValue_any L[k].v L[k].v w
      rw [eqV_refl] at cV
      generalize L[k] = q at *
      obtain ⟨m, kk, n, s⟩ := q
      simp only [V.val] at *
      have i0 : (0 : Int) ≤ (k : Int) := by omega
      have i1 : (k : Int) < (L.length : Int) := by omega
      have y0 : b < wr.heap.size := by have := hbl.size; omega
      have y1 : b' < wr.heap.size := by have := hbl.size; omega
      go_wp2_with fail
      go_region_held3 (fun W => W.cell? ⟨b, off + k * 4, none⟩ = some (.string m) ∧ W.cell? ⟨b, off + k * 4 + 1, none⟩ = some (.int .i64 kk) ∧ W.cell? ⟨b, off + k * 4 + 2, none⟩ = some (.int .i64 n) ∧ W.cell? ⟨b, off + k * 4 + 3, none⟩ = some (.string s) ∧ W.cell? ⟨b', off' + k * 4, none⟩ = some (.string m) ∧ W.cell? ⟨b', off' + k * 4 + 1, none⟩ = some (.int .i64 kk) ∧ W.cell? ⟨b', off' + k * 4 + 2, none⟩ = some (.int .i64 n) ∧ W.cell? ⟨b', off' + k * 4 + 3, none⟩ = some (.string s))
        (first | exact ⟨(hB.cell (p := ⟨b, _, none⟩) y0).trans e0, (hB.cell (p := ⟨b, _, none⟩) y0).trans e1, (hB.cell (p := ⟨b, _, none⟩) y0).trans e2, (hB.cell (p := ⟨b, _, none⟩) y0).trans e3, (hB.cell (p := ⟨b', _, none⟩) y1).trans g0, (hB.cell (p := ⟨b', _, none⟩) y1).trans g1, (hB.cell (p := ⟨b', _, none⟩) y1).trans g2, (hB.cell (p := ⟨b', _, none⟩) y1).trans g3⟩ | go_keep)
        ((go_at_call 21; refine (cV _).mono ?_; rintro e wA ⟨rfl, hbA⟩; have hB := drew_below hbA))
      all_goals go_wp2_with fail
      all_goals go_roundw
      case rel => exact ⟨k + 1, by omega, by go_num, below2 hbl hB⟩
      case measure => simp [intOf]; omega
    · go_wp2_with fail
      go_ret
      exact ⟨rfl, hbl⟩

set_option maxHeartbeats 400000 in
set_option maxRecDepth 100000 in
theorem keepProps_none (a a' : Option Addr) (cap cap' : Nat) (w : World) : Calls Try.prog 30 #[.slice a 0 cap, .slice a' 0 cap'] w fun e w' => e = .returned (.bool true) ∧ Below w.heap.size w w' := by
  go_enter Try.func30, Try.ntmps30
  go_wp2_with fail
  refine wp_loop_rounds 1 ?_
  rw [rounds_succ]
  go_wp2_with fail
  go_ret
  exact ⟨rfl, Below.refl _ _⟩

/-- Lists that are alike are told to be. -/
theorem keepProps_any (L : List Pr) (a a' : Option Addr) (cap cap' : Nat) (w : World) (h : Sl w a L) (h' : Sl w a' L) (hlen : L.length ≤ 1000000) :
    Calls Try.prog 30 #[.slice a L.length cap, .slice a' L.length cap'] w fun e w' => e = .returned (.bool true) ∧ Below w.heap.size w w' := by
  rcases h with rfl | ⟨b, off, rfl, hb, hr⟩
  · exact keepProps_none a a' cap cap' w
  · rcases h' with rfl | ⟨b', off', rfl, hb', hr'⟩
    · exact keepProps_none _ _ cap cap' w
    · exact keepProps_some L b off cap b' off' cap' w hb hr hb' hr' hlen

end Go.Proofs.Ytndbhalkhejgjaa

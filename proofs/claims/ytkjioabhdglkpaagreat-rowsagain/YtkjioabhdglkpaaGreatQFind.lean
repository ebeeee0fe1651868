/- find, findPinned. -/
import Derived.Test.YtkjioabhdglkpaaGreatQStep
namespace Go.Proofs.YtkjioabhdglkpaaGreat
open Go.RowKit

/-- Which frame holds a page. -/
def idx (l : List Fm) (a : Int) : Option Nat := l.findIdx? (fun f => decide ((f.pg : Int) = a))

theorem idx_some {l : List Fm} {a : Int} {i : Nat} (h : idx l a = some i) : ∃ f, l[i]? = some f ∧ (f.pg : Int) = a ∧ ∀ (j : Nat) (f' : Fm), j < i → l[j]? = some f' → (f'.pg : Int) ≠ a := by
  unfold idx at h
  rw [List.findIdx?_eq_some_iff_getElem] at h
  obtain ⟨hlt, h1, h2⟩ := h
  refine ⟨l[i], by simp [hlt], by simpa using h1, fun j f' hj hf => ?_⟩
  have := h2 j hj
  have e : l[j] = f' := by
    have := List.getElem?_eq_getElem (l := l) (i := j) (by omega)
    rw [hf] at this
    exact (Option.some.inj this).symm
  rw [e] at this
  simpa using this

theorem idx_none {l : List Fm} {a : Int} (h : idx l a = none) : ∀ (j : Nat) (f' : Fm), l[j]? = some f' → (f'.pg : Int) ≠ a := by
  intro j f' hj
  unfold idx at h
  rw [List.findIdx?_eq_none_iff] at h
  simpa using h f' (List.mem_of_getElem? hj)

def frs (L : List (Nat × Fm)) : List Fm := L.map Prod.snd
theorem frs_get {L : List (Nat × Fm)} {i : Nat} {f : Fm} (h : (frs L)[i]? = some f) : ∃ b, L[i]? = some (b, f) := by
  unfold frs at h
  rw [List.getElem?_map] at h
  obtain ⟨y, hy, rfl⟩ := Option.map_eq_some_iff.1 h
  exact ⟨y.1, hy⟩
theorem frs_of {L : List (Nat × Fm)} {i b : Nat} {f : Fm} (h : L[i]? = some (b, f)) : (frs L)[i]? = some f := by simp [frs, h]

section
variable {B : Nat} {w : World} {x : PX}

set_option maxHeartbeats 800000 in
theorem find_any (h : Pd B w x) (hf : x.fv = x.hv) (hl : x.L.length ≤ 1000) (a : Int) (r : Value) (HR : Hid ((∀ (i b : Nat) (f : Fm), x.L[i]? = some (b, f) → (f.pg : Int) ≠ a) ∧ r = .pointer none ∨ ∃ (i b : Nat) (f : Fm), x.L[i]? = some (b, f) ∧ (f.pg : Int) = a ∧ r = .pointer (some ⟨b, 0, none⟩) ∧ ∀ (j b' : Nat) (f' : Fm), j < i → x.L[j]? = some (b', f') → (f'.pg : Int) ≠ a)) :
    Calls Tryz.prog 48 #[.pointer (some ⟨x.p, 0, none⟩), .int .i64 a] w fun e w' => e = .returned r ∧ w' = w := by
  obtain ⟨_, _, c2, _, _⟩ := h.cell
  obtain ⟨sa, sc, ev, _, _⟩ := h.hvOf
  rw [hf, ev] at c2
  go_enter Tryz.func48, Tryz.ntmps48
  go_wp2_with fail
  go_loopw [12] (fun si wr => ∃ k : Nat, k ≤ x.L.length ∧ si = .int .i64 (k : Int) ∧ wr = w ∧ ∀ (j b : Nat) (f : Fm), j < k → x.L[j]? = some (b, f) → (f.pg : Int) ≠ a) (fun si _ => x.L.length - (intOf si).toNat)
  case atStart => exact ⟨0, Nat.zero_le _, rfl, rfl, fun _ _ _ h => absurd h (Nat.not_lt_zero _)⟩
  case round =>
    obtain ⟨k, hk, rfl, rfl, hbef⟩ := hrel
    by_cases hlt : k < x.L.length
    · have hlt2 : (k : Int) < (x.L.length : Int) := by omega
      have hx : x.L[k]? = some x.L[k] := by simp [hlt]
      generalize x.L[k] = y at hx
      obtain ⟨b, f⟩ := y
      obtain ⟨ra, rc, e, hsc, _, _, _, _, d0⟩ := h.rowAt hx
      rw [ev] at e
      cases e
      obtain ⟨f0, _, _, _⟩ := fobj_cell (h.inL hx).1
      by_cases he : (f.pg : Int) = a
      · have hre : r = .pointer (some ⟨b, 0, none⟩) := by
          rcases HR.out with ⟨q, _⟩ | ⟨i, b', f', q1, q2, q3, q4⟩
          · exact absurd he (q k b f hx)
          · rcases Nat.lt_trichotomy i k with z | z | z
            · exact absurd q2 (hbef i b' f' z q1)
            · subst z
              rw [hx] at q1
              cases q1
              exact q3
            · exact absurd he (q4 k b f z hx)
        have hd : ((f.pg : Int) == a) = true := by simpa using he
        have HH : Hid (r = .pointer (some ⟨b, 0, none⟩)) := hre
        clear he hre
        go_wp2_with fail
        go_ret
        exact ⟨by rw [HH.out]; rfl, rfl⟩
      · have hd : ((f.pg : Int) == a) = false := by simpa using he
        have HB : Hid (∀ (j b : Nat) (f : Fm), j < k + 1 → x.L[j]? = some (b, f) → (f.pg : Int) ≠ a) := by
          intro j b' f' hj hx'
          by_cases z : j < k
          · exact hbef j b' f' z hx'
          · obtain rfl : j = k := by omega
            rw [hx] at hx'
            cases hx'
            exact he
        clear he hbef
        go_wp2_with fail
        go_roundw
        case rel => exact ⟨k + 1, by omega, by go_num, trivial, HB.out⟩
        case measure => simp [intOf]; omega
    · obtain rfl : k = x.L.length := by omega
      have hre : r = .pointer none := by
        rcases HR.out with ⟨_, q⟩ | ⟨i, b', f', q1, q2, _, _⟩
        · exact q
        · exact absurd q2 (hbef i b' f' (List.getElem?_eq_some_iff.1 q1).1 q1)
      have HH : Hid (r = .pointer none) := hre
      clear hre hbef
      go_wp2_with fail
      go_ret
      exact ⟨by rw [HH.out]; rfl, rfl⟩
end
end Go.Proofs.YtkjioabhdglkpaaGreat

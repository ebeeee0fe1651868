/- The document's pool: find. -/
import Derived.Test.YtghocbaafdnddaaGreatRMem
namespace Go.Proofs.YtghocbaafdnddaaGreat
open Go.RowKit

/-- The place of a page's frame, or -1. -/
def idxI (l : List Fm) (a : Int) : Int := match idx l a with | some i => (i : Int) | none => -1

theorem idx_at {l : List Fm} {a : Int} {k : Nat} {f : Fm} (hk : l[k]? = some f) (hf : (f.pg : Int) = a) (hb : ∀ (j : Nat) (f' : Fm), j < k → l[j]? = some f' → (f'.pg : Int) ≠ a) : idxI l a = (k : Int) := by
  unfold idxI
  cases hx : idx l a with
  | none => exact absurd hf (idx_none hx k f hk)
  | some i =>
    obtain ⟨f', h1, h2, h3⟩ := idx_some hx
    rcases Nat.lt_trichotomy i k with z | z | z
    · exact absurd h2 (hb i f' z h1)
    · rw [z]
    · exact absurd hf (h3 k f z hk)
theorem idx_not {l : List Fm} {a : Int} (hb : ∀ (j : Nat) (f' : Fm), j < l.length → l[j]? = some f' → (f'.pg : Int) ≠ a) : idxI l a = -1 := by
  unfold idxI
  cases hx : idx l a with
  | none => rfl
  | some i =>
    obtain ⟨f', h1, h2, h3⟩ := idx_some hx
    exact absurd h2 (hb i f' (List.getElem?_eq_some_iff.1 h1).1 h1)

section
variable {B : Nat} {w : World} {y : RX}

set_option maxHeartbeats 800000 in
theorem rfind_any (h : Rp B w y) (hl : y.l.length ≤ 1000) (a : Int) (r : Int) (HR : Hid (idxI y.l a = r)) :
    Calls Tryz.prog 50 #[.pointer (some ⟨y.q, 0, none⟩), .int .i64 a] w fun e w' => e = .returned (.int .i64 r) ∧ w' = w := by
  obtain ⟨_, _, c2, _, _⟩ := h.cell
  obtain ⟨sa, sc, ev, _, _⟩ := h.lvOf
  rw [ev] at c2
  go_enter Tryz.func50, Tryz.ntmps50
  go_wp2_with fail
  go_loopw [5] (fun si wr => ∃ k : Nat, k ≤ y.l.length ∧ si = .int .i64 (k : Int) ∧ wr = w ∧ ∀ (j : Nat) (f : Fm), j < k → y.l[j]? = some f → (f.pg : Int) ≠ a) (fun si _ => y.l.length - (intOf si).toNat)
  case atStart => exact ⟨0, Nat.zero_le _, rfl, rfl, fun _ _ h => absurd h (Nat.not_lt_zero _)⟩
  case round =>
    obtain ⟨k, hk, rfl, rfl, hbef⟩ := hrel
    by_cases hlt : k < y.l.length
    · have hlt2 : (k : Int) < (y.l.length : Int) := by omega
      have hx : y.l[k]? = some y.l[k] := by simp [hlt]
      generalize y.l[k] = f at hx
      obtain ⟨ra, rc, e, hsc, _, _, _, _, d0, _⟩ := h.at hx
      rw [ev] at e
      cases e
      by_cases he : (f.pg : Int) = a
      · have hre : Hid (r = (k : Int)) := HR.out.symm.trans (idx_at hx he hbef)
        have hd : ((f.pg : Int) == a) = true := by simpa using he
        clear he hbef
        go_wp2_with fail
        go_ret
        exact ⟨by rw [hre.out]; rfl, rfl⟩
      · have hd : ((f.pg : Int) == a) = false := by simpa using he
        have HB : Hid (∀ (j : Nat) (f : Fm), j < k + 1 → y.l[j]? = some f → (f.pg : Int) ≠ a) := by
          intro j f' hj hx'
          by_cases z : j < k
          · exact hbef j f' z hx'
          · obtain rfl : j = k := by omega
            rw [hx] at hx'
            cases hx'
            exact he
        clear he hbef
        go_wp2_with fail
        go_roundw
        case rel => exact ⟨k + 1, by omega, by go_num, trivial, HB.out⟩
        case measure => simp [intOf]; omega
    · obtain rfl : k = y.l.length := by omega
      have hre : Hid (r = -1) := HR.out.symm.trans (idx_not hbef)
      clear hbef
      go_wp2_with fail
      go_ret
      exact ⟨by rw [hre.out]; rfl, rfl⟩
end
end Go.Proofs.YtghocbaafdnddaaGreat

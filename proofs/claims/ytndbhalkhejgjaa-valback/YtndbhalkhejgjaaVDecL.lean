/- The properties that stand in bytes: plain mathematics. -/
import Derived.Test.YtndbhalkhejgjaaVEncL
import Derived.Test.YtndbhalkhejgjaaVDecode
namespace Go.Proofs.Ytndbhalkhejgjaa
open Go.RowKit

theorem text_in (l : List UInt8) (p most : Int) (h : (getTextAt l p most).2.2 = true) :
    0 ≤ p ∧ 1 ≤ (getTextAt l p most).2.1 ∧ p.toNat + (getTextAt l p most).2.1 ≤ l.length ∧ ((getTextAt l p most).1.length : Int) ≤ most := by
  unfold getTextAt at *
  split at h
  · rename_i hc
    have h1 := getAt_in l p hc.1
    rw [if_pos hc]
    simp only [List.length_take, List.length_drop]
    omega
  · cases h

theorem text_no (l : List UInt8) (p most : Int) (h : (getTextAt l p most).2.2 = false) : getTextAt l p most = ([], 0, false) := by
  unfold getTextAt at *
  split at h
  · cases h
  · rename_i hc
    rw [if_neg hc]

theorem zag_in (u : Nat) (h : u < 18446744073709551616) : -9223372036854775808 ≤ zag u ∧ zag u ≤ 9223372036854775807 := by
  unfold zag
  split <;> omega

theorem ba_len (l : List UInt8) : (ba l).size = l.length := by simp [ba, ByteArray.size]

theorem decK_in (c : Nat) (r : ByteArray) (h : (decK c r).2.2 = true) : (decK c r).2.1 ≤ r.size ∧ (decK c r).1.s.size ≤ 1024 ∧ -9223372036854775808 ≤ (decK c r).1.n ∧ (decK c r).1.n ≤ 9223372036854775807 := by
  have hl : r.data.toList.length = r.size := by simp
  have hz : (⟨#[]⟩ : ByteArray).size = 0 := rfl
  unfold decK at *
  split
  · simp only [noV]
    omega
  · rename_i c0
    rw [if_neg c0] at h
    split
    · rename_i c1
      rw [if_pos c1] at h
      split
      · rename_i hb
        simp
        omega
      · rename_i hb
        rw [if_neg hb] at h
        cases h
    · rename_i c1
      rw [if_neg c1] at h
      split
      · rename_i c2
        rw [if_pos c2] at h
        split
        · rename_i hg
          have h1 := getAt_in _ _ hg
          have h2 := zag_in _ (getAt_lt r.data.toList 0)
          simp
          simp at h1
          omega
        · rename_i hg
          rw [if_neg hg] at h
          cases h
      · rename_i c2
        rw [if_neg c2] at h
        split
        · rename_i c3
          rw [if_pos c3] at h
          split
          · rename_i hg
            have h1 := text_in _ _ _ hg
            rw [hl] at h1
            simp only [ba_len]
            omega
          · rename_i hg
            rw [if_neg hg] at h
            cases h
        · rename_i c3
          rw [if_neg c3] at h
          cases h

theorem decV_in (s : ByteArray) (p : Int) (h : (decV s p).2.2 = true) : 0 ≤ p ∧ 1 ≤ (decV s p).2.1 ∧ p.toNat + (decV s p).2.1 ≤ s.size ∧ (decV s p).1.s.size ≤ 1024 ∧ -9223372036854775808 ≤ (decV s p).1.n ∧ (decV s p).1.n ≤ 9223372036854775807 := by
  unfold decV at *
  split at h
  · rename_i hp
    split at h
    · rename_i hk
      have h1 := decK_in _ _ hk
      rw [rest_size] at h1
      rw [if_pos hp, if_pos hk]
      simp only
      omega
    · cases h
  · cases h

theorem decV_no (s : ByteArray) (p : Int) (h : (decV s p).2.2 = false) : decV s p = (noV, 0, false) := by
  unfold decV at *
  split at h
  · rename_i hp
    split at h
    · cases h
    · rename_i hk
      rw [if_pos hp, if_neg hk]
  · rename_i hp
    rw [if_neg hp]

/-- The property that stands at a place. -/
def decP (s : ByteArray) (q : Nat) : Pr × Nat × Bool :=
  if (getTextAt s.data.toList (q : Int) 16).2.2 = true then
    (⟨ba (getTextAt s.data.toList (q : Int) 16).1, (decV s ((q + (getTextAt s.data.toList (q : Int) 16).2.1 : Nat) : Int)).1⟩,
      (getTextAt s.data.toList (q : Int) 16).2.1 + (decV s ((q + (getTextAt s.data.toList (q : Int) 16).2.1 : Nat) : Int)).2.1, (decV s ((q + (getTextAt s.data.toList (q : Int) 16).2.1 : Nat) : Int)).2.2)
  else (⟨⟨#[]⟩, noV⟩, 0, false)

/-- A property whose texts are short and whose number is one. -/
structure Fit (p : Pr) : Prop where
  a : p.name.size ≤ 16
  b : p.v.s.size ≤ 1024
  c : -9223372036854775808 ≤ p.v.n
  d : p.v.n ≤ 9223372036854775807

theorem Fit.small {p : Pr} (h : Fit p) : smallP p := ⟨by have := h.a; omega, by have := h.b; omega⟩

theorem decP_in (s : ByteArray) (q : Nat) (h : (decP s q).2.2 = true) : 1 ≤ (decP s q).2.1 ∧ q + (decP s q).2.1 ≤ s.size ∧ Fit (decP s q).1 := by
  have hl : s.data.toList.length = s.size := by simp
  unfold decP at *
  split at h
  · rename_i ht
    rw [if_pos ht]
    have h1 := text_in _ _ _ ht
    have h2 := decV_in _ _ h
    simp only at *
    refine ⟨by omega, by omega, ⟨?_, h2.2.2.2.1, h2.2.2.2.2.1, h2.2.2.2.2.2⟩⟩
    simp only [ba_len]
    omega
  · cases h

/-- So many properties that stand one behind the other, and where they end. -/
def decGo (s : ByteArray) : Nat → Nat → Option (List Pr × Nat)
  | 0, q => some ([], q)
  | n + 1, q => if (decP s q).2.2 = true then (decGo s n (q + (decP s q).2.1)).map (fun r => ((decP s q).1 :: r.1, r.2)) else none

theorem decGo_in (s : ByteArray) (n q : Nat) (l : List Pr) (e : Nat) (h : decGo s n q = some (l, e)) (hq : q ≤ s.size) : q ≤ e ∧ e ≤ s.size ∧ l.length = n ∧ ∀ p ∈ l, Fit p := by
  induction n generalizing q l e with
  | zero =>
    simp only [decGo, Option.some.injEq, Prod.mk.injEq] at h
    obtain ⟨rfl, rfl⟩ := h
    exact ⟨Nat.le_refl _, hq, rfl, fun p hp => by cases hp⟩
  | succ n ih =>
    rw [decGo] at h
    split at h
    · rename_i hp
      obtain ⟨h1, h2, h3⟩ := decP_in s q hp
      rw [Option.map_eq_some_iff] at h
      obtain ⟨⟨l', e'⟩, hg, he⟩ := h
      simp only [Prod.mk.injEq] at he
      obtain ⟨rfl, rfl⟩ := he
      obtain ⟨k1, k2, k3, k4⟩ := ih _ _ _ hg h2
      refine ⟨by omega, k2, by simp [k3], ?_⟩
      intro p hp'
      rcases List.mem_cons.1 hp' with rfl | hp'
      · exact h3
      · exact k4 p hp'
    · cases h

/-- What is gone through so far, and what is left. -/
def decAt (s : ByteArray) (A : List Pr) (n q : Nat) : Option (List Pr × Nat) := (decGo s n q).map (fun r => (A ++ r.1, r.2))

theorem decAt_end (s : ByteArray) (A : List Pr) (q : Nat) : decAt s A 0 q = some (A, q) := by simp [decAt, decGo]

theorem decAt_no (s : ByteArray) (A : List Pr) (n q : Nat) (h : (decP s q).2.2 = false) : decAt s A (n + 1) q = none := by
  rw [decAt, decGo, if_neg (by rw [h]; simp)]
  rfl

theorem decAt_yes (s : ByteArray) (A : List Pr) (n q : Nat) (h : (decP s q).2.2 = true) : decAt s A (n + 1) q = decAt s (A ++ [(decP s q).1]) n (q + (decP s q).2.1) := by
  rw [decAt, decGo, if_pos h, decAt, Option.map_map]
  congr 1
  funext r
  simp

/-- What stands at a place, or that there are none. -/
def decE (p : Nat) : Option (List Pr × Nat) → List Pr × Nat × Bool
  | some (l, e) => if propsB l = true then (l, e - p, true) else ([], 0, false)
  | none => ([], 0, false)

def decL (s : ByteArray) (p : Int) : List Pr × Nat × Bool :=
  if (getAt s.data.toList p).2.2 = true ∧ (getAt s.data.toList p).1 ≤ 8 then decE p.toNat (decGo s (getAt s.data.toList p).1 (p.toNat + (getAt s.data.toList p).2.1)) else ([], 0, false)

end Go.Proofs.Ytndbhalkhejgjaa

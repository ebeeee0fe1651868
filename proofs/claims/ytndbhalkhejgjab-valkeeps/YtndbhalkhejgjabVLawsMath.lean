/- What Set and Get make of lists: plain mathematics for ValTurns and ValKeeps. -/
import Derived.Test.YtndbhalkhejgjabVPropsMath
namespace Go.Proofs.Ytndbhalkhejgjab
open Go.RowKit

theorem set_first (a : ByteArray) (v : V) (h : v.k ≠ 0) : setL [] a v = [⟨a, v⟩] := by simp [setL, setGo, h]

theorem set_same (a : ByteArray) (v x : V) (h : v.k ≠ 0) : setL [⟨a, x⟩] a v = [⟨a, v⟩] := by simp [setL, setGo, h]

theorem set_after (a b : ByteArray) (v x : V) (h : v.k ≠ 0) (hl : ltS a b = true) : setL [⟨a, x⟩] b v = [⟨a, x⟩, ⟨b, v⟩] := by
  have h1 : a ≠ b := ltS_ne hl
  have h2 := ltS_asymm hl
  simp [setL, setGo, h, h1, h2]

theorem set_ahead (a b : ByteArray) (v x : V) (h : v.k ≠ 0) (hl : ltS b a = true) : setL [⟨a, x⟩] b v = [⟨b, v⟩, ⟨a, x⟩] := by
  have h1 : a ≠ b := fun e => ltS_ne hl e.symm
  simp [setL, setGo, h, h1, hl]

/-- One of two that stand in order, set anew. -/
theorem set_two_first (a b : ByteArray) (v x : V) (h : v.k ≠ 0) (hl : ltS a b = true) : setL [⟨a, v⟩, ⟨b, x⟩] a v = [⟨a, v⟩, ⟨b, x⟩] := by
  have h1 : b ≠ a := fun e => ltS_ne hl e.symm
  simp [setL, setGo, h, h1, hl]

theorem set_two_last (a b : ByteArray) (v x : V) (h : v.k ≠ 0) (hl : ltS b a = true) : setL [⟨b, x⟩, ⟨a, v⟩] a v = [⟨b, x⟩, ⟨a, v⟩] := by
  have h1 : b ≠ a := ltS_ne hl
  have h2 := ltS_asymm hl
  simp [setL, setGo, h, h1, h2]

theorem drop_both (a b : ByteArray) (v x : V) (hn : a ≠ b) : setL (setL [⟨a, v⟩, ⟨b, x⟩] a noV) b noV = [] := by
  simp [setL, setGo, noV, hn.symm]

theorem drop_both' (a b : ByteArray) (v x : V) (hn : a ≠ b) : setL (setL [⟨b, x⟩, ⟨a, v⟩] a noV) b noV = [] := by
  simp [setL, setGo, noV, hn.symm]

theorem good_kind {v : V} (h : goodB v = true) : v.k ≠ 0 := by
  intro e
  simp [goodB, e] at h

end Go.Proofs.Ytndbhalkhejgjab

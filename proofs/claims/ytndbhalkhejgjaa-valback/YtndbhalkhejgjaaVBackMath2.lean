/- What was encoded is decoded as it was; what was decoded is encoded as it stood: plain mathematics of properties. -/
import Derived.Test.YtndbhalkhejgjaaVBackMath
namespace Go.Proofs.Ytndbhalkhejgjaa
open Go.RowKit

theorem encV_some {v : V} (h : goodB v = true) : encV v ≠ [] := by
  unfold encV
  rw [h]
  simp

theorem decP_enc (s : ByteArray) (q : Nat) (p : Pr) (r : List UInt8) (hd : s.data.toList.drop q = encP p ++ r) (h1 : nameB p.name = true) (h2 : goodB p.v = true) (hn : -9223372036854775808 ≤ p.v.n ∧ p.v.n ≤ 9223372036854775807) :
    decP s q = (p, (encP p).length, true) := by
  have hs := (nameB_le _ h1).2
  have hl : p.name.data.toList.length = p.name.size := by simp
  rw [encP, List.append_assoc] at hd
  have e1 := getText_enc s.data.toList (encV p.v ++ r) p.name.data.toList q 16 hd (by omega) (by omega)
  have hd2 : s.data.toList.drop (q + (putT p.name.data.toList).length) = encV p.v ++ r := by rw [← List.drop_drop, hd, List.drop_left]
  have e2 := decV_enc s _ p.v r hd2 (encV_some h2) hn
  unfold decP
  rw [e1]
  simp only
  rw [if_pos trivial, e2, ba_data, encP, List.length_append]

theorem decGo_enc (s : ByteArray) (q : Nat) (L : List Pr) (r : List UInt8) (hd : s.data.toList.drop q = L.flatMap encP ++ r) (hg : ∀ p ∈ L, nameB p.name = true ∧ goodB p.v = true)
    (hn : ∀ p ∈ L, -9223372036854775808 ≤ p.v.n ∧ p.v.n ≤ 9223372036854775807) : decGo s L.length q = some (L, q + (L.flatMap encP).length) := by
  induction L generalizing q with
  | nil => rfl
  | cons p l ih =>
    rw [List.flatMap_cons, List.append_assoc] at hd
    obtain ⟨h1, h2⟩ := hg p (List.mem_cons_self ..)
    have e1 := decP_enc s q p _ hd h1 h2 (hn p (List.mem_cons_self ..))
    have hd2 : s.data.toList.drop (q + (encP p).length) = l.flatMap encP ++ r := by rw [← List.drop_drop, hd, List.drop_left]
    have e2 := ih _ hd2 (fun x hx => hg x (List.mem_cons_of_mem _ hx)) (fun x hx => hn x (List.mem_cons_of_mem _ hx))
    rw [List.length_cons, decGo, e1]
    simp only
    rw [if_pos trivial, e2, List.flatMap_cons, List.length_append, Nat.add_assoc]
    rfl

theorem decL_enc (s : ByteArray) (q : Nat) (L : List Pr) (r : List UInt8) (hd : s.data.toList.drop q = encL L ++ r) (hp : propsB L = true) (hn : ∀ p ∈ L, -9223372036854775808 ≤ p.v.n ∧ p.v.n ≤ 9223372036854775807) :
    decL s (q : Int) = (L, (encL L).length, true) := by
  obtain ⟨h8, hg⟩ := props_parts hp
  rw [encL, List.append_assoc] at hd
  have e1 := getAt_enc s.data.toList _ q L.length hd (by omega)
  have hd2 : s.data.toList.drop (q + (enc L.length).length) = L.flatMap encP ++ r := by rw [← List.drop_drop, hd, List.drop_left]
  have e2 := decGo_enc s _ L r hd2 hg hn
  unfold decL
  rw [e1]
  simp only [Int.toNat_natCast]
  rw [if_pos ⟨trivial, h8⟩, e2]
  simp only [decE]
  rw [if_pos hp, encL, List.length_append]
  congr 2
  omega

theorem decP_took (s : ByteArray) (q : Nat) (h : (decP s q).2.2 = true) : encP (decP s q).1 = (s.data.toList.drop q).take (decP s q).2.1 := by
  unfold decP at *
  split at h
  · rename_i ht
    rw [if_pos ht]
    have e1 := getText_took s.data.toList q 16 ht
    have e2 := decV_took s _ h
    simp only at *
    rw [encP]
    simp only
    rw [data_ba, e1, e2, ← List.drop_drop, ← List.take_add]
  · cases h

theorem decGo_took (s : ByteArray) (n q : Nat) (l : List Pr) (e : Nat) (h : decGo s n q = some (l, e)) (hq : q ≤ s.size) : l.flatMap encP = (s.data.toList.drop q).take (e - q) := by
  induction n generalizing q l e with
  | zero =>
    simp only [decGo, Option.some.injEq, Prod.mk.injEq] at h
    obtain ⟨rfl, rfl⟩ := h
    simp
  | succ n ih =>
    rw [decGo] at h
    split at h
    · rename_i hp
      obtain ⟨h1, h2, h3⟩ := decP_in s q hp
      rw [Option.map_eq_some_iff] at h
      obtain ⟨⟨l', e'⟩, hg, he⟩ := h
      simp only [Prod.mk.injEq] at he
      obtain ⟨rfl, rfl⟩ := he
      have k1 := (decGo_in s n _ _ _ hg h2).1
      rw [List.flatMap_cons, ih _ _ _ hg h2, decP_took s q hp, ← List.drop_drop, ← List.take_add]
      congr 1
      omega
    · cases h

theorem decL_took (s : ByteArray) (q : Nat) (h : (decL s (q : Int)).2.2 = true) : propsB (decL s (q : Int)).1 = true ∧ encL (decL s (q : Int)).1 = (s.data.toList.drop q).take (decL s (q : Int)).2.1 ∧ q + (decL s (q : Int)).2.1 ≤ s.size ∧ ∀ p ∈ (decL s (q : Int)).1, Fit p := by
  have hl : s.data.toList.length = s.size := by simp
  unfold decL at *
  split at h
  · rename_i hc
    rw [if_pos hc]
    have h1 := getAt_in _ _ hc.1
    have h2 := getAt_took _ q hc.1
    rw [Int.toNat_natCast] at *
    cases hD : decGo s (getAt s.data.toList (q : Int)).1 (q + (getAt s.data.toList (q : Int)).2.1) with
    | none => rw [hD] at h; cases h
    | some D =>
      obtain ⟨l, e⟩ := D
      rw [hD] at h
      have k1 := decGo_in s _ _ _ _ hD (by omega)
      have k2 := decGo_took s _ _ _ _ hD (by omega)
      simp only [decE] at *
      split at h
      · rename_i hp
        rw [if_pos hp]
        refine ⟨hp, ?_, ?_, k1.2.2.2⟩
        · simp only
          rw [encL, k1.2.2.1, k2, h2, ← List.drop_drop, ← List.take_add]
          congr 1
          omega
        · simp only
          omega
      · cases h
  · cases h

theorem decL_no (s : ByteArray) (p : Int) (h : (decL s p).2.2 = false) : decL s p = ([], 0, false) := by
  unfold decL at *
  split
  · rename_i hc
    rw [if_pos hc] at h
    cases hD : decGo s (getAt s.data.toList p).1 (p.toNat + (getAt s.data.toList p).2.1) with
    | none => rfl
    | some D =>
      obtain ⟨l, e⟩ := D
      rw [hD] at h
      simp only [decE] at *
      split
      · rename_i hp
        rw [if_pos hp] at h
        cases h
      · rfl
  · rfl

theorem cut_first (s : ByteArray) (n : Nat) : s.extract 0 n = ba (s.data.toList.take n) := by
  have h := cut_text2 s 0 n
  rw [Nat.zero_add, List.drop_zero] at h
  exact h

end Go.Proofs.Ytndbhalkhejgjaa

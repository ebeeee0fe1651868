/- The contract of the document's own Split. -/
import Derived.Test.YtijpnlomfodihaaDoorKOne
import Derived.Test.YtijpnlomfodihaaDoorKBack
namespace Go.Proofs.YtijpnlomfodihaaDoor
open Go.RowKit

theorem dec1_of {s : List UInt8} {v : V} {k : Nat} (h : getM s = (v, k, true)) (hf : kfit v = true) : dec1 s = some (v, s.drop k) := by
  unfold dec1
  rw [h]
  simp [hf]

theorem dec1_not {s : List UInt8} {v : V} {k : Nat} {b : Bool} (h : getM s = (v, k, b)) (hf : b = false ∨ kfit v = false) : dec1 s = none := by
  unfold dec1
  rw [h]
  rcases hf with hf | hf <;> simp [hf]

theorem d_0 (r : List UInt8) : dec1 (0 :: r) = some (⟨0, 0, ba []⟩, r) := dec1_of (getM_0 r) rfl
theorem d_1n : dec1 [1] = none := dec1_not (getM_1 []) (Or.inl rfl)
theorem d_1b (b : UInt8) (r : List UInt8) (h : 1 < b.toNat) : dec1 (1 :: b :: r) = none := by
  refine dec1_not (getM_1 (b :: r)) (Or.inr ?_)
  rw [Bool.eq_false_iff]
  intro hk
  simp only [gB] at hk
  rcases fit_cases hk with e | ⟨n, e, hn⟩ | ⟨n, e⟩ | ⟨q, e, _⟩
  · exact absurd (congrArg V.k e) (by simp)
  · have := congrArg V.n e
    simp only at this
    omega
  · exact absurd (congrArg V.k e) (by simp)
  · exact absurd (congrArg V.k e) (by simp)
theorem d_1 (b : UInt8) (r : List UInt8) (h : b.toNat ≤ 1) : dec1 (1 :: b :: r) = some (⟨1, b.toNat, ba []⟩, r) := by
  have := dec1_of (s := 1 :: b :: r) (v := ⟨1, b.toNat, ba []⟩) (k := 2) (getM_1 (b :: r)) (by
    have h2 : (b.toNat : Int) = 0 ∨ (b.toNat : Int) = 1 := by omega
    rcases h2 with h2 | h2 <;> simp [kfit, blankB, goodB, h2, ba_size])
  rw [this]
  rfl
theorem d_2n (r : List UInt8) (h : r.length < 8) : dec1 (2 :: r) = none := by
  refine dec1_not (getM_2 r) (Or.inl ?_)
  simp [gI, h]
theorem d_2 (r : List UInt8) (h : ¬ r.length < 8) : dec1 (2 :: r) = some (⟨2, (ofBe (r.take 8) : Int) - 9223372036854775808, ba []⟩, r.drop 8) := by
  have := dec1_of (s := 2 :: r) (v := ⟨2, (ofBe (r.take 8) : Int) - 9223372036854775808, ba []⟩) (k := 9) (by rw [getM_2]; simp [gI, h]) (by simp [kfit, blankB, goodB, ba_size])
  rw [this]
  rfl
theorem d_3n (r : List UInt8) (h : unesc r = none) : dec1 (3 :: r) = none := by
  refine dec1_not (getM_3 r) (Or.inl ?_)
  rw [gT_none h]
theorem d_3l (r t q : List UInt8) (h : unesc r = some (t, q)) (hl : 1024 < t.length) : dec1 (3 :: r) = none := by
  refine dec1_not (getM_3 r) (Or.inr ?_)
  rw [gT_some h]
  rw [Bool.eq_false_iff]
  intro hk
  simp only at hk
  rcases fit_cases hk with e | ⟨n, e, hn⟩ | ⟨n, e⟩ | ⟨x, e, hx⟩
  · exact absurd (congrArg V.k e) (by simp)
  · exact absurd (congrArg V.k e) (by simp)
  · exact absurd (congrArg V.k e) (by simp)
  · have := congrArg V.s e
    simp only at this
    rw [← this, ba_size] at hx
    omega
theorem d_3 (r t q : List UInt8) (h : unesc r = some (t, q)) (hl : t.length ≤ 1024) : dec1 (3 :: r) = some (⟨3, 0, ba t⟩, q) := by
  have hb := unesc_back r.length r t q (Nat.le_refl _) h
  have hf : kfit ⟨3, 0, ba t⟩ = true := by simp [kfit, blankB, goodB, ba_size, hl]
  have hk := dec1_kv (v := ⟨3, 0, ba t⟩) hf ⟨by simp, by simp, by simp, by simp⟩ q
  have e : kv ⟨3, 0, ba t⟩ ++ q = 3 :: r := by
    rw [hb]
    simp [kv, ba]
  rw [e] at hk
  exact hk
theorem d_x (c : UInt8) (r : List UInt8) (h0 : c ≠ 0) (h1 : c ≠ 1) (h2 : c ≠ 2) (h3 : c ≠ 3) : dec1 (c :: r) = none := dec1_not (getM_no c r h0 h1 h2 h3) (Or.inl rfl)

/-- One value more. -/
theorem sp_step {S : List UInt8} {A : List V} {z y : Nat} {v : V} (ha : Fit A) (hS : S = kvs A ++ S.drop z) (hd : dec1 (S.drop z) = some (v, S.drop y)) : Fit (A ++ [v]) ∧ S = kvs (A ++ [v]) ++ S.drop y := by
  obtain ⟨g1, g2, g3⟩ := dec1_back hd
  refine ⟨ha.append (fun x hx => by
    obtain rfl : x = v := by simpa using hx
    exact ⟨g2, g3⟩), ?_⟩
  rw [kvs_append]
  conv => lhs; rw [hS, g1]
  simp [kvs]

theorem xor_back (U : Nat) (h : U < 18446744073709551616) : IntKind.i64.wrap (bits .xor .u64 (U : Int) 9223372036854775808) = (U : Int) - 9223372036854775808 := by
  have h2 := u64_xor_nat U 9223372036854775808 h (by omega)
  rw [show (9223372036854775808 : Int) = ((9223372036854775808 : Nat) : Int) from rfl, h2, IntKind.wrap_i64]
  rcases Nat.lt_or_ge U 9223372036854775808 with hl | hl
  · rw [xor_low U hl]; omega
  · rw [xor_high U hl h]; omega

theorem cellsAt_new {w : World} {p : V} {H : Nat} (hH : w.heap.size = H) : CellsAt (w.alloc (.cells #[.int .i64 p.k, .int .i64 p.n, .string p.s] 43)) (some ⟨H, 0, none⟩) [p] := by
  refine Or.inr ⟨_, rfl, ?_⟩
  rw [cellsK_one]
  exact newV hH

end Go.Proofs.YtijpnlomfodihaaDoor

/- What was encoded is decoded as it was; what was decoded is encoded as it stood: plain mathematics of val. -/
import Derived.Test.YtndbhalkhejgjaaVDecL
namespace Go.Proofs.Ytndbhalkhejgjaa
open Go.RowKit

theorem getAt_enc (l r : List UInt8) (q n : Nat) (h : l.drop q = enc n ++ r) (hn : n < 18446744073709551616) : getAt l (q : Int) = (n, (enc n).length, true) := by
  have h1 := (enc_len n).1
  have h2 : q ≤ l.length := by
    have := congrArg List.length h
    rw [List.length_drop, List.length_append] at this
    omega
  unfold getAt
  rw [if_pos ⟨by omega, by omega⟩, Int.toNat_natCast, h, dec_enc n r hn]

theorem getText_enc (l r t : List UInt8) (q : Nat) (most : Int) (h : l.drop q = putT t ++ r) (hm : (t.length : Int) ≤ most) (ht : t.length < 18446744073709551616) : getTextAt l (q : Int) most = (t, (putT t).length, true) := by
  rw [putT, List.append_assoc] at h
  have h1 := getAt_enc l (t ++ r) q t.length h ht
  have hlen := congrArg List.length h
  rw [List.length_drop, List.length_append, List.length_append] at hlen
  have h2 := (enc_len t.length).1
  unfold getTextAt
  rw [h1]
  simp only [Int.toNat_natCast]
  rw [if_pos ⟨trivial, by omega, hm, by omega⟩]
  have h3 : l.drop (q + (enc t.length).length) = t ++ r := by
    rw [← List.drop_drop, h, List.drop_left]
  rw [h3, List.take_left, putT, List.length_append]

theorem getAt_took (l : List UInt8) (q : Nat) (h : (getAt l (q : Int)).2.2 = true) : enc (getAt l (q : Int)).1 = (l.drop q).take (getAt l (q : Int)).2.1 := by
  unfold getAt at *
  split at h
  · rename_i hp
    rw [if_pos hp]
    rw [Int.toNat_natCast] at *
    exact (dec_back (l.drop q) _ _ (by rw [← h])).2.2.2.1
  · cases h

theorem getText_took (l : List UInt8) (q : Nat) (most : Int) (h : (getTextAt l (q : Int) most).2.2 = true) : putT (getTextAt l (q : Int) most).1 = (l.drop q).take (getTextAt l (q : Int) most).2.1 := by
  unfold getTextAt at *
  split at h
  · rename_i hc
    have h1 := getAt_took l q hc.1
    have h2 := getAt_in l (q : Int) hc.1
    rw [if_pos hc]
    rw [Int.toNat_natCast] at *
    simp only
    have h3 : ((l.drop (q + (getAt l (q : Int)).2.1)).take (getAt l (q : Int)).1).length = (getAt l (q : Int)).1 := by
      rw [List.length_take, List.length_drop]
      omega
    rw [putT, h3, h1, ← List.drop_drop, ← List.take_add]
  · cases h

theorem zig_zag (u : Nat) : zig (zag u) = u := by
  unfold zag zig
  split <;> split <;> omega

theorem data_ba (l : List UInt8) : (ba l).data.toList = l := by simp [ba]

theorem ba_data (s : ByteArray) : ba s.data.toList = s := by
  apply ByteArray.ext
  simp [ba]

theorem rest_data (s : ByteArray) (p : Nat) : (rest s p).data.toList = s.data.toList.drop p := by
  unfold rest
  rw [extract_drop]

theorem bt_at (s : ByteArray) (q : Nat) (b : UInt8) (r : List UInt8) (h : s.data.toList.drop q = b :: r) : q < s.size ∧ bt s q = b.toNat ∧ s.data.toList.drop (q + 1) = r := by
  have hl : s.data.toList.length = s.size := by simp
  have hlt : q < s.size := by
    have := congrArg List.length h
    rw [List.length_drop, List.length_cons] at this
    omega
  rw [drop_cons s q hlt] at h
  injection h with h1 h2
  refine ⟨hlt, ?_, h2⟩
  rw [← bt_eq s q hlt, h1]

theorem encV_kinds (v : V) (h : encV v ≠ []) : goodB v = true ∨ blankB v = true := by
  unfold encV at h
  split at h
  · rename_i hc
    simpa using hc
  · exact absurd rfl h

/-- What was encoded is decoded, wherever it stands. -/
theorem decV_enc (s : ByteArray) (q : Nat) (v : V) (r : List UInt8) (hd : s.data.toList.drop q = encV v ++ r) (h : encV v ≠ []) (hn : -9223372036854775808 ≤ v.n ∧ v.n ≤ 9223372036854775807) : decV s (q : Int) = (v, (encV v).length, true) := by
  have hk := encV_kinds v h
  have he : encV v = UInt8.ofNat v.k.toNat :: (if v.k = 1 then [UInt8.ofNat v.n.toNat] else if v.k = 2 then enc (zig v.n) else if v.k = 3 then putT v.s.data.toList else []) := by
    unfold encV
    rw [if_pos (by simpa using hk)]
  rw [he, List.cons_append] at hd
  obtain ⟨hlt, hb, hd1⟩ := bt_at s q _ _ hd
  have hrd := rest_data s (q + 1)
  rw [hd1] at hrd
  unfold decV
  rw [if_pos ⟨by omega, by omega⟩, Int.toNat_natCast, he]
  clear hd1 hd h he
  obtain ⟨k, n, t⟩ := v
  simp only [goodB, blankB, Bool.or_eq_true, Bool.and_eq_true, decide_eq_true_eq] at hk
  simp only at *
  generalize rest s (q + 1) = R at *
  rcases hk with ((⟨rfl, h1, h2⟩ | ⟨rfl, h2⟩) | ⟨rfl, rfl, h2⟩) | ⟨rfl, rfl, h2⟩
  · obtain rfl := size_zero t h2
    rw [show bt s q = 1 from hb]
    simp only [if_true, List.singleton_append] at hrd ⊢
    have h3 := bt_at R 0 (UInt8.ofNat n.toNat) r (by rw [List.drop_zero]; exact hrd)
    have h4 : bt R 0 = n.toNat := by rw [h3.2.1, byte_low _ (by omega)]
    have h5 : decK 1 R = (⟨1, n, ⟨#[]⟩⟩, 1, true) := by
      unfold decK
      rw [if_neg (by omega), if_pos rfl, if_pos ⟨h3.1, by omega⟩, h4, show ((n.toNat : Nat) : Int) = n by omega]
    rw [h5]
    rfl
  · obtain rfl := size_zero t h2
    rw [show bt s q = 2 from hb]
    simp only [show ¬ ((2 : Int) = 1) by omega, if_false, if_true] at hrd ⊢
    have h3 := getAt_enc R.data.toList r 0 (zig n) (by rw [List.drop_zero]; exact hrd) (zig_lt n hn.1 hn.2)
    have h5 : decK 2 R = (⟨2, n, ⟨#[]⟩⟩, (enc (zig n)).length, true) := by
      unfold decK
      rw [if_neg (by omega), if_neg (by omega), if_pos rfl]
      rw [show ((0 : Nat) : Int) = 0 from rfl] at h3
      rw [h3, if_pos rfl, zag_zig]
    rw [h5, if_pos rfl, List.length_cons, Nat.add_comm]
  · rw [show bt s q = 3 from hb]
    simp only [show ¬ ((3 : Int) = 1) by omega, show ¬ ((3 : Int) = 2) by omega, if_false, if_true] at hrd ⊢
    have hl : t.data.toList.length = t.size := by simp
    have h3 := getText_enc R.data.toList r t.data.toList 0 1024 (by rw [List.drop_zero]; exact hrd) (by omega) (by omega)
    have h5 : decK 3 R = (⟨3, 0, t⟩, (putT t.data.toList).length, true) := by
      unfold decK
      rw [if_neg (by omega), if_neg (by omega), if_neg (by omega), if_pos rfl]
      rw [show ((0 : Nat) : Int) = 0 from rfl] at h3
      rw [h3, if_pos rfl, ba_data]
    rw [h5, if_pos rfl, List.length_cons, Nat.add_comm]
  · obtain rfl := size_zero t h2
    rw [show bt s q = 0 from hb]
    rfl

theorem drop_bt (s : ByteArray) (q : Nat) (h : q < s.size) : s.data.toList.drop q = UInt8.ofNat (bt s q) :: s.data.toList.drop (q + 1) := by
  rw [drop_cons s q h, ← bt_eq s q h]
  simp

/-- What was decoded is encoded as it stood. -/
theorem decV_took (s : ByteArray) (q : Nat) (h : (decV s (q : Int)).2.2 = true) : encV (decV s (q : Int)).1 = (s.data.toList.drop q).take (decV s (q : Int)).2.1 := by
  unfold decV at *
  split at h
  · rename_i hp
    rw [if_pos hp]
    rw [Int.toNat_natCast] at *
    split at h
    · rename_i hk
      rw [if_pos hk]
      have hlt : q < s.size := by omega
      rw [drop_bt s q hlt]
      have hrd := rest_data s (q + 1)
      generalize rest s (q + 1) = R at *
      rw [← hrd]
      clear hrd h hp
      have hb := bt_lt s q
      generalize bt s q = c at *
      simp only
      rw [Nat.add_comm 1, List.take_succ_cons]
      unfold decK at *
      by_cases c0 : c = 0
      · subst c0
        rfl
      · rw [if_neg c0] at *
        by_cases c1 : c = 1
        · subst c1
          rw [if_pos rfl] at *
          by_cases hx : 0 < R.size ∧ bt R 0 ≤ 1
          · rw [if_pos hx]
            have e1 : encV ⟨1, (bt R 0 : Int), ⟨#[]⟩⟩ = UInt8.ofNat 1 :: [UInt8.ofNat (bt R 0)] := by
              have : (bt R 0 : Int) = 0 ∨ (bt R 0 : Int) = 1 := by omega
              unfold encV
              rw [if_pos (by rcases this with h | h <;> rw [h] <;> rfl)]
              rfl
            have e2 := drop_bt R 0 hx.1
            rw [List.drop_zero] at e2
            simp only
            rw [e1, e2, List.take_succ_cons, List.take_zero]
          · rw [if_neg hx] at hk
            cases hk
        · rw [if_neg c1] at *
          by_cases c2 : c = 2
          · subst c2
            rw [if_pos rfl] at *
            by_cases hx : (getAt R.data.toList 0).2.2 = true
            · rw [if_pos hx]
              have e1 := getAt_took R.data.toList 0 (by exact hx)
              rw [List.drop_zero, show ((0 : Nat) : Int) = 0 from rfl] at e1
              have hu := getAt_lt R.data.toList 0
              simp only
              rw [← e1]
              unfold encV
              rw [if_pos (by rfl)]
              simp only [show ¬ ((2 : Int) = 1) by omega, if_false, if_true]
              rw [zig_zag]
              rfl
            · rw [if_neg hx] at hk
              cases hk
          · rw [if_neg c2] at *
            by_cases c3 : c = 3
            · subst c3
              rw [if_pos rfl] at *
              by_cases hx : (getTextAt R.data.toList 0 1024).2.2 = true
              · rw [if_pos hx]
                have e1 := getText_took R.data.toList 0 1024 (by exact hx)
                have e2 := text_in R.data.toList 0 1024 hx
                rw [List.drop_zero, show ((0 : Nat) : Int) = 0 from rfl] at e1
                simp only
                rw [← e1]
                unfold encV
                rw [if_pos (by simp [goodB, ba_len]; omega)]
                simp only [show ¬ ((3 : Int) = 1) by omega, show ¬ ((3 : Int) = 2) by omega, if_false, if_true]
                rw [data_ba]
                rfl
              · rw [if_neg hx] at hk
                cases hk
            · rw [if_neg c3] at hk
              cases hk
    · cases h
  · cases h

end Go.Proofs.Ytndbhalkhejgjaa

/- The contract of the document's own bytes of a value. -/
import Derived.Test.YtijpnlomfodihaaDoorKBytes
import Derived.Laws.BitsAllLaws
namespace Go.Proofs.YtijpnlomfodihaaDoor
open Go.RowKit

theorem BRow.out {w wr : World} {o : Obj} {v : Value} {l : List UInt8} (h : BRow (w.alloc o) wr v l) : BRow w wr v l := by
  refine ⟨?_, below2 (below_alloc1 _ _) h.root⟩
  obtain ⟨h1, h2⟩ := h.own
  refine ⟨h1, ?_⟩
  rcases h2 with h2 | ⟨g, cap, cur, hv, hg, r⟩
  · exact Or.inl h2
  · refine Or.inr ⟨g, cap, cur, hv, ?_, r⟩
    simp at hg
    omega

theorem xor_low (a : Nat) (h : a < 9223372036854775808) : a ^^^ 9223372036854775808 = a + 9223372036854775808 := by
  have h1 := Nat.two_pow_add_eq_or_of_lt (i := 63) (b := a) h 1
  have h2 : a ^^^ 2 ^ 63 = 2 ^ 63 * 1 ||| a := by
    refine Nat.eq_of_testBit_eq fun i => ?_
    rw [Nat.testBit_xor, Nat.testBit_or, Nat.mul_one, Nat.testBit_two_pow]
    by_cases hi : 63 = i
    · subst hi
      rw [Nat.testBit_lt_two_pow h]
      rfl
    · simp [hi]
  rw [← h1] at h2
  rw [show (9223372036854775808 : Nat) = 2 ^ 63 from rfl, h2]
  omega

theorem xor_high (a : Nat) (h0 : 9223372036854775808 ≤ a) (h : a < 18446744073709551616) : a ^^^ 9223372036854775808 = a - 9223372036854775808 := by
  have h1 := xor_low (a - 9223372036854775808) (by omega)
  have h2 : a = (a - 9223372036854775808) ^^^ 9223372036854775808 := by rw [h1]; omega
  conv => lhs; rw [h2]
  rw [Nat.xor_assoc, Nat.xor_self, Nat.xor_zero]

theorem xor_sign (n : Int) (h0 : -9223372036854775808 ≤ n) (h1 : n ≤ 9223372036854775807) : bits .xor .u64 (IntKind.u64.wrap n) 9223372036854775808 = ((n + 9223372036854775808).toNat : Int) := by
  rw [IntKind.wrap_u64]
  obtain ⟨a, ha⟩ : ∃ a : Nat, n % 18446744073709551616 = (a : Int) := ⟨(n % 18446744073709551616).toNat, by omega⟩
  rw [ha]
  have h := u64_xor_nat a 9223372036854775808 (by omega) (by omega)
  refine Eq.trans h ?_
  rcases Nat.lt_or_ge a 9223372036854775808 with hl | hl
  · rw [xor_low a hl]; omega
  · rw [xor_high a hl (by omega)]; omega

theorem esc_take (l : List UInt8) (k : Nat) (h : k < l.length) : esc (l.take (k + 1)) = esc (l.take k) ++ (if l[k] = 0 then [0, 255] else [l[k]]) := by
  rw [List.take_succ_eq_append_getElem h, esc_append]
  congr 1

set_option maxHeartbeats 800000 in
set_option maxRecDepth 100000 in
theorem one_0 (w : World) : Calls Tryd.prog 27 #[.agg #[.int .i64 0, .int .i64 0, .string (ba [])]] w fun e w' => ∃ val, e = .returned val ∧ BRow w w' val [0] := by
  have hB := BRow.one (w.alloc (.cells #[.int .i64 0, .int .i64 0, .string (ba [])] 43)) 0 0 rfl
  go_enter Tryd.func27, Tryd.ntmps27
  go_wp2_with fail
  go_ret
  exact ⟨_, rfl, by simpa using hB.out⟩

set_option maxHeartbeats 800000 in
set_option maxRecDepth 100000 in
theorem one_1 (n : Nat) (hn : n < 256) (w : World) : Calls Tryd.prog 27 #[.agg #[.int .i64 1, .int .i64 (n : Int), .string ⟨#[]⟩]] w fun e w' => ∃ val, e = .returned val ∧ BRow w w' val [1, UInt8.ofNat n] := by
  have hB := BRow.one (w.alloc (.cells #[.int .i64 1, .int .i64 (n : Int), .string ⟨#[]⟩] 43)) 1 1 rfl
  rw [show (w.alloc (.cells #[.int .i64 1, .int .i64 (n : Int), .string ⟨#[]⟩] 43)).heap.size = w.heap.size + 1 by simp] at hB
  have hB2 := hB.alloc (.cells #[.int .u8 (n : Int)] 5)
  have ew : (n : Int) % 256 = (n : Int) := by omega
  have hx : Hid ((n : Int) = ((UInt8.ofNat n).toNat : Int)) := by
    show (n : Int) = ((UInt8.ofNat n).toNat : Int)
    rw [byte_low n hn]
  go_enter Tryd.func27, Tryd.ntmps27
  go_wp2_with (at_builtin; refine wpList_append_bytes rfl (.tmp 15) (.tmp 19) rfl _ _ _ [1] [UInt8.ofNat n] rfl hB2 ⟨_, 0, none⟩ 1 1 rfl rfl (newB1 (by simp) hx.out) (by simp) ?_; intro v8 w8 hv8)
  go_ret
  exact ⟨_, rfl, hv8.out⟩

set_option maxHeartbeats 800000 in
set_option maxRecDepth 100000 in
theorem one_2 (n : Int) (w : World) (h0 : -9223372036854775808 ≤ n) (h1 : n ≤ 9223372036854775807) : Calls Tryd.prog 27 #[.agg #[.int .i64 2, .int .i64 n, .string (ba [])]] w fun e w' => ∃ val, e = .returned val ∧ BRow w w' val (2 :: be 8 (n + 9223372036854775808).toNat) := by
  have hx := xor_sign n h0 h1
  obtain ⟨U, hU⟩ : ∃ U : Nat, (n + 9223372036854775808).toNat = U := ⟨_, rfl⟩
  rw [hU] at hx ⊢
  have hU2 : U < 18446744073709551616 := by omega
  clear hU h0 h1
  have hB := BRow.one (w.alloc (.cells #[.int .i64 2, .int .i64 n, .string (ba [])] 43)) 2 2 rfl
  go_enter Tryd.func27, Tryd.ntmps27
  go_wp2_with fail
  go_loopw [3, 5] (fun sb si wr => ∃ k r : Nat, k + r = 8 ∧ si = .int .i64 ((r : Int) - 1) ∧ BRow (w.alloc (.cells #[.int .i64 2, .int .i64 n, .string (ba [])] 43)) wr sb (2 :: (be 8 U).take k)) (fun _ si _ => (Lib.intOf si + 1).toNat)
  case atStart => exact ⟨0, 8, rfl, rfl, by simpa using hB⟩
  case round =>
    obtain ⟨k, r, hkr, rfl, hv⟩ := hrel
    by_cases hr : r = 0
    · subst hr
      obtain rfl : k = 8 := by omega
      have e8 : (be 8 U).take 8 = be 8 U := List.take_of_length_le (by rw [be_length]; omega)
      rw [e8] at hv
      go_wp2_with fail
      go_ret
      exact ⟨_, rfl, hv.out⟩
    · obtain ⟨m, rfl⟩ : ∃ m, r = m + 1 := ⟨r - 1, by omega⟩
      have hm1 : ((m + 1 : Nat) : Int) - 1 = (m : Int) := by omega
      have hk8 : k < (be 8 U).length := by rw [be_length]; omega
      have hbe := be_at 8 U k (by omega)
      rw [show 8 - 1 - k = m by omega] at hbe
      have htk : (be 8 U).take (k + 1) = (be 8 U).take k ++ [UInt8.ofNat (U / 256 ^ m)] := by rw [List.take_succ_eq_append_getElem hk8, hbe]
      have hxc : (U : Int) / 2 ^ (8 * m) % 256 = ((UInt8.ofNat (U / 256 ^ m)).toNat : Int) := by
        rw [two_pow]
        simp
      generalize UInt8.ofNat (U / 256 ^ m) = c at *
      have hv2 := hv.alloc (.cells #[.int .u8 (c.toNat : Int)] 5)
      have hlen : ((2 : UInt8) :: (be 8 U).take k).length ≤ 100 := by rw [List.length_cons, List.length_take]; omega
      go_wp2_with (at_builtin; refine wpList_append_bytes rfl (.tmp 31) (.tmp 38) rfl _ _ _ (2 :: (be 8 U).take k) [c] rfl hv2 ⟨_, 0, none⟩ 1 1 rfl rfl (newB1 rfl rfl) (by rw [List.length_singleton]; omega) ?_; intro v8 w8 hv8)
      go_roundw
      case rel => exact ⟨k + 1, m, by omega, by first | rfl | go_num, by rw [htk]; simpa using hv8⟩
      case measure => simp [Lib.intOf]

set_option maxHeartbeats 1600000 in
set_option maxRecDepth 100000 in
theorem one_3 (s : ByteArray) (w : World) (hs : s.size ≤ 1000000) : Calls Tryd.prog 27 #[.agg #[.int .i64 3, .int .i64 0, .string s]] w fun e w' => ∃ val, e = .returned val ∧ BRow w w' val (3 :: (esc s.data.toList ++ [0, 1])) := by
  have hB := BRow.one (w.alloc (.cells #[.int .i64 3, .int .i64 0, .string s] 43)) 3 3 rfl
  have hl : s.data.toList.length = s.size := by simp
  go_enter Tryd.func27, Tryd.ntmps27
  go_wp2_with fail
  go_loopw [3, 6] (fun sb si wr => ∃ k : Nat, k ≤ s.size ∧ si = .int .i64 (k : Int) ∧ BRow (w.alloc (.cells #[.int .i64 3, .int .i64 0, .string s] 43)) wr sb (3 :: esc (s.data.toList.take k))) (fun _ si _ => s.size - (Lib.intOf si).toNat)
  case atStart => exact ⟨0, Nat.zero_le _, rfl, by simpa [esc] using hB⟩
  case round =>
    obtain ⟨k, hk, rfl, hv⟩ := hrel
    have k2 := hv.root.cell (p := ⟨w.heap.size, 2, none⟩) (by simp)
    simp at k2
    have hlen : ((3 : UInt8) :: esc (s.data.toList.take k)).length ≤ 2000001 := by
      have := (esc_length (s.data.toList.take k)).2
      rw [List.length_take] at this
      rw [List.length_cons]
      omega
    by_cases hlt : k < s.size
    · obtain ⟨c, hc⟩ : ∃ c, s[k] = c := ⟨_, rfl⟩
      have hesc := esc_take s.data.toList k (by rw [hl]; exact hlt)
      have hg : s.data.toList[k]'(by rw [hl]; exact hlt) = c := by rw [← hc]; rfl
      rw [hg] at hesc
      have hct : s[k].toNat = c.toNat := by rw [hc]
      have hc2 := c.toNat_lt
      have hv2 := hv.alloc (.cells #[.int .u8 (c.toNat : Int)] 5)
      clear hB hg hc
      by_cases e0 : c = 0
      · subst e0
        rw [if_pos rfl] at hesc
        have HE : Hid (esc (s.data.toList.take (k + 1)) = esc (s.data.toList.take k) ++ [0, 255]) := hesc
        clear hesc
        have hct' : s[k].toNat = 0 := hct
        have hv2' : BRow (w.alloc (.cells #[.int .i64 3, .int .i64 0, .string s] 43)) (wr.alloc (.cells #[.int .u8 0] 5)) _ _ := hv2
        clear hct hv2
        go_wp2_with (first
          | (at_builtin; refine wpList_append_bytes rfl (.tmp 49) (.tmp 54) rfl _ _ _ (3 :: esc (s.data.toList.take k)) [0] rfl hv2' ⟨_, 0, none⟩ 1 1 rfl rfl (newB1 rfl rfl) (by rw [List.length_singleton]; omega) ?_; intro v8 w8 hv8; have k8 := hv8.root.cell (p := ⟨w.heap.size, 2, none⟩) (by simp); simp at k8)
          | (at_builtin; refine wpList_append_bytes rfl (.tmp 61) (.tmp 62) rfl _ _ _ (3 :: esc (s.data.toList.take k) ++ [0]) [255] rfl (hv8.alloc _) ⟨_, 0, none⟩ 1 1 rfl rfl (newB1 rfl rfl) (by rw [List.length_append, List.length_singleton]; simp only [List.length_singleton]; omega) ?_; intro v9 w9 hv9))
        go_roundw
        case rel => exact ⟨k + 1, by omega, by go_num, by rw [HE.out]; simpa using hv9⟩
        case measure => simp [Lib.intOf]; omega
      · rw [if_neg e0] at hesc
        have HE : Hid (esc (s.data.toList.take (k + 1)) = esc (s.data.toList.take k) ++ [c]) := hesc
        clear hesc
        have hc0 : ((c.toNat : Int) == 0) = false := by
          rw [beq_eq_false_iff_ne]
          intro h
          exact e0 (UInt8.toNat_inj.1 (by simpa using h))
        go_wp2_with (at_builtin; refine wpList_append_bytes rfl (.tmp 49) (.tmp 54) rfl _ _ _ (3 :: esc (s.data.toList.take k)) [c] rfl hv2 ⟨_, 0, none⟩ 1 1 rfl rfl (newB1 rfl rfl) (by rw [List.length_singleton]; omega) ?_; intro v8 w8 hv8; have k8 := hv8.root.cell (p := ⟨w.heap.size, 2, none⟩) (by simp); simp at k8)
        go_roundw
        case rel => exact ⟨k + 1, by omega, by go_num, by rw [HE.out]; simpa using hv8⟩
        case measure => simp [Lib.intOf]; omega
    · obtain rfl : k = s.size := by omega
      have ht : s.data.toList.take s.size = s.data.toList := List.take_of_length_le (by omega)
      rw [ht] at hv hlen
      have hv2 := hv.alloc (.cells #[.int .u8 0, .int .u8 1] 5)
      clear hB
      go_wp2_with (at_builtin; refine wpList_append_bytes rfl (.tmp 64) (.tmp 65) rfl _ _ _ (3 :: esc s.data.toList) [0, 1] rfl hv2 ⟨_, 0, none⟩ 2 2 rfl rfl (newB2 rfl rfl rfl) (by simp only [List.length_cons, List.length_nil] at *; omega) ?_; intro v8 w8 hv8)
      go_ret
      exact ⟨_, rfl, by simpa using hv8.out⟩

theorem one_any (v : V) (w : World) (hf : kfit v = true) (ho : v.ok) : Calls Tryd.prog 27 #[v.val] w fun e w' => ∃ val, e = .returned val ∧ BRow w w' val (kv v) := by
  have h1 := ho.n0; have h2 := ho.n1
  rcases fit_cases hf with rfl | ⟨n, rfl, hn⟩ | ⟨n, rfl⟩ | ⟨s, rfl, hs⟩
  · exact one_0 w
  · obtain ⟨m, rfl, hm⟩ : ∃ m : Nat, n = (m : Int) ∧ m < 256 := ⟨n.toNat, by omega, by omega⟩
    exact one_1 m hm w
  · exact one_2 n w h1 h2
  · exact one_3 s w (by omega)

end Go.Proofs.YtijpnlomfodihaaDoor

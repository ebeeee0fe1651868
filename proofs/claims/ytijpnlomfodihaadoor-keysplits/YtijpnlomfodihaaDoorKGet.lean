/- The contracts of key.getBool, getInt, getText. -/
import Derived.Test.YtijpnlomfodihaaDoorKMake
import Derived.Laws.BitsAllLaws
namespace Go.Proofs.YtijpnlomfodihaaDoor
open Go.RowKit

def gI (r : List UInt8) : Int × Nat × Bool := if r.length < 8 then (0, 0, false) else ((ofBe (r.take 8) : Int) - 9223372036854775808, 8, true)
def gB (r : List UInt8) : Int × Nat × Bool := match r with
  | [] => (0, 0, false)
  | b :: _ => ((b.toNat : Int), 1, true)
def gT (r : List UInt8) : List UInt8 × Nat × Bool := match unesc r with
  | none => ([], 0, false)
  | some x => (x.1, r.length - x.2.length, true)

def gv (d : Int × Nat × Bool) : Value := .tuple #[.int .i64 d.1, .int .i64 (d.2.1 : Int), .bool d.2.2]

set_option maxHeartbeats 400000 in
theorem kgetBool_any (s : ByteArray) (w : World) : Calls Tryd.prog 37 #[.string s] w fun e w' => e = .returned (gv (gB s.data.toList)) ∧ w' = w := by
  by_cases h : s.size = 0
  · obtain rfl := size_zero s h
    clear h
    go_enter Tryd.func37, Tryd.ntmps37
    go_wp2_with fail
    exact bodyPost_ret (v := .tuple #[.int .i64 0, .int .i64 0, .bool false]) (by simp [results, Tryd.results37, go_sem]) rfl ⟨rfl, rfl⟩
  · have h2 := list_some s h
    have hlt : 0 < s.size := by omega
    obtain ⟨c, hc⟩ : ∃ c : Nat, s[0].toNat = c := ⟨_, rfl⟩
    have hl : gB s.data.toList = ((c : Int), 1, true) := by
      have := drop_cons s 0 hlt
      rw [List.drop_zero] at this
      rw [this, gB, hc]
    rw [hl]
    have hc2 : c < 256 := by rw [← hc]; exact s[0].toNat_lt
    clear hl h
    go_enter Tryd.func37, Tryd.ntmps37
    go_wp2_with fail
    exact bodyPost_ret (v := .tuple #[.int .i64 (c : Int), .int .i64 1, .bool true]) (by simp [results, Tryd.results37, go_sem]) rfl ⟨rfl, rfl⟩

theorem or_low (U c : Nat) (hU : U < 72057594037927936) (hc : c < 256) : bits .or .u64 ((U : Int) * 256) (c : Int) = ((U * 256 + c : Nat) : Int) := by
  have h := u64_or_nat (U * 256) c (by omega) (by omega)
  rw [show ((U * 256 : Nat) : Int) = (U : Int) * 256 by omega] at h
  rw [h]
  have := Nat.two_pow_add_eq_or_of_lt (i := 8) (b := c) (by omega) U
  rw [show 2 ^ 8 * U = U * 256 by omega] at this
  omega

theorem ofBe_snoc (l : List UInt8) (c : UInt8) : ofBe (l ++ [c]) = ofBe l * 256 + c.toNat := by
  unfold ofBe
  rw [List.foldl_append]
  rfl

set_option maxHeartbeats 800000 in
set_option maxRecDepth 100000 in
theorem kgetInt_any (s : ByteArray) (w : World) (hs : s.size ≤ 281474976710656) : Calls Tryd.prog 38 #[.string s] w fun e w' => e = .returned (gv (gI s.data.toList)) ∧ w' = w := by
  have hl : s.data.toList.length = s.size := by simp
  unfold gI
  rw [hl]
  by_cases h : s.size < 8
  · rw [if_pos h]
    clear hl
    go_enter Tryd.func38, Tryd.ntmps38
    go_wp2_with fail
    exact bodyPost_ret (v := .tuple #[.int .i64 0, .int .i64 0, .bool false]) (by simp [results, Tryd.results38, go_sem]) rfl ⟨rfl, rfl⟩
  · rw [if_neg h]
    have h8 : 8 ≤ s.size := by omega
    clear hl h
    go_enter Tryd.func38, Tryd.ntmps38
    go_wp2_with fail
    go_loop [5, 10] (fun su si => ∃ k U : Nat, k ≤ 8 ∧ si = .int .i64 (k : Int) ∧ su = .int .u64 (U : Int) ∧ Hid (U = ofBe (s.data.toList.take k)) ∧ Hid (U < 256 ^ k)) (fun _ si => 8 - (intOf si).toNat)
    case atStart => exact ⟨0, 0, by omega, rfl, rfl, show 0 = ofBe (s.data.toList.take 0) from rfl, show 0 < 256 ^ 0 from by omega⟩
    case round =>
      obtain ⟨k, U, hk, rfl, rfl, HU, HL⟩ := hrel
      by_cases hlt : k < 8
      · have hks : k < s.size := by omega
        obtain ⟨c, hc⟩ : ∃ c : Nat, s[k].toNat = c := ⟨_, rfl⟩
        have hc2 : c < 256 := by rw [← hc]; exact s[k].toNat_lt
        have hU7 : U < 72057594037927936 := Nat.lt_of_lt_of_le HL.out (Nat.pow_le_pow_right (by omega) (show k ≤ 7 by omega))
        have hor := or_low U c hU7 hc2
        have HN : Hid (U * 256 + c = ofBe (s.data.toList.take (k + 1))) := by
          rw [List.take_succ_eq_append_getElem (by simpa using hks), ofBe_snoc, ← HU.out]
          rw [← hc]
          rfl
        have HN2 : Hid (U * 256 + c < 256 ^ (k + 1)) := by
          have := HL.out
          rw [Nat.pow_succ]
          show U * 256 + c < 256 ^ k * 256
          omega
        have hw1 : (U : Int) * 256 % 18446744073709551616 = (U : Int) * 256 := by omega
        go_wp2_with fail
        go_round
        case rel => exact ⟨k + 1, U * 256 + c, by omega, by go_num, by go_num, HN, HN2⟩
        case measure => simp [intOf]; omega
      · obtain rfl : k = 8 := by omega
        have hU8 : U < 18446744073709551616 := HL.out
        have hw2 : IntKind.i64.wrap (IntKind.u64.wrap ((U : Int) - 9223372036854775808)) = (U : Int) - 9223372036854775808 := by
          rw [IntKind.wrap_i64, IntKind.wrap_u64]; omega
        go_wp2_with fail
        refine bodyPost_ret (v := .tuple #[.int .i64 ((U : Int) - 9223372036854775808), .int .i64 8, .bool true]) (by simp [results, Tryd.results38, go_sem]) rfl ⟨?_, rfl⟩
        rw [← HU.out]
        rfl

theorem ix_cases (l : List UInt8) : (Lib.indexByte l 0 = -1 ∧ 0 ∉ l) ∨ ∃ p r, l = p ++ 0 :: r ∧ 0 ∉ p ∧ Lib.indexByte l 0 = (p.length : Int) := by
  induction l with
  | nil => exact Or.inl ⟨rfl, by simp⟩
  | cons c l ih =>
    by_cases h : c = 0
    · subst h
      exact Or.inr ⟨[], l, rfl, by simp, by simp [Lib.indexByte]⟩
    · have hb : (c == 0) = false := by simpa using h
      rcases ih with ⟨h1, h2⟩ | ⟨p, r, rfl, h2, h3⟩
      · refine Or.inl ⟨by simp [Lib.indexByte, hb, h1], ?_⟩
        simp only [List.mem_cons, not_or]
        exact ⟨fun e => h e.symm, h2⟩
      · refine Or.inr ⟨c :: p, r, rfl, ?_, ?_⟩
        · simp only [List.mem_cons, not_or]
          exact ⟨fun e => h e.symm, h2⟩
        · have h4 : ((p.length : Int) == -1) = false := by rw [beq_eq_false_iff_ne]; omega
          simp [Lib.indexByte, hb, h3, h4]

theorem unesc_at (p r : List UInt8) (h : 0 ∉ p) : unesc (p ++ r) = (unesc r).map (fun x => (p ++ x.1, x.2)) := by
  have := unesc_esc p r
  rw [esc_plain p h] at this
  exact this

theorem unesc_1 (r : List UInt8) : unesc (0 :: 1 :: r) = some ([], r) := by rw [unesc.eq_def]; rfl
theorem unesc_255 (r : List UInt8) : unesc (0 :: 255 :: r) = (unesc r).map (fun x => (0 :: x.1, x.2)) := by rw [unesc.eq_def]; rfl
theorem unesc_no (r : List UInt8) (h1 : List.isPrefixOf [0, 1] (0 :: r) = false) (h2 : List.isPrefixOf [0, 255] (0 :: r) = false) : unesc (0 :: r) = none := by
  rw [unesc.eq_def]
  cases r with
  | nil => rfl
  | cons d r =>
    have e1 : d ≠ 1 := fun e => by subst e; simp [List.isPrefixOf] at h1
    have e2 : d ≠ 255 := fun e => by subst e; simp [List.isPrefixOf] at h2
    simp [e1, e2]

theorem ext_data (s : ByteArray) (z : Nat) : (s.extract z s.size).data.toList = s.data.toList.drop z := by
  simp
  rw [List.take_of_length_le (by simp)]

theorem ext_ba (s : ByteArray) (a n : Nat) : s.extract a (a + n) = ba ((s.data.toList.drop a).take n) := cut_text2 s a n

def gvT (d : List UInt8 × Nat × Bool) : Value := .tuple #[.string (ba d.1), .int .i64 (d.2.1 : Int), .bool d.2.2]

theorem pre_two {a b : UInt8} {r : List UInt8} (h : Lib.hasPrefix (a :: r) (⟨#[a, b]⟩ : ByteArray).data.toList = true) : ∃ r1, r = b :: r1 := by
  have h' : List.isPrefixOf [a, b] (a :: r) = true := h
  cases r with
  | nil => simp [List.isPrefixOf] at h'
  | cons d r =>
    simp [List.isPrefixOf] at h'
    exact ⟨r, by rw [h']⟩

theorem gT_none {l : List UInt8} (h : unesc l = none) : gT l = ([], 0, false) := by unfold gT; rw [h]
theorem gT_some {l : List UInt8} {t r : List UInt8} (h : unesc l = some (t, r)) : gT l = (t, l.length - r.length, true) := by unfold gT; rw [h]

set_option maxHeartbeats 1600000 in
set_option maxRecDepth 100000 in
theorem kgetText_any (s : ByteArray) (w : World) (hs : s.size ≤ 1000000) : Calls Tryd.prog 39 #[.string s] w fun e w' => e = .returned (gvT (gT s.data.toList)) ∧ Below w.heap.size w w' := by
  obtain ⟨G, hG⟩ : ∃ G, gvT (gT s.data.toList) = G := ⟨_, rfl⟩
  have HG : Hid (gvT (gT s.data.toList) = G) := hG
  rw [hG]
  clear hG
  go_enter Tryd.func39, Tryd.ntmps39
  go_wp2_with fail
  go_loopw [3] (fun sz wr => ∃ (z : Nat) (t : List UInt8), z ≤ s.size ∧ sz = .int .i64 (z : Int) ∧ t.length ≤ z ∧ Hid (unesc s.data.toList = (unesc (s.data.toList.drop z)).map (fun x => (t ++ x.1, x.2))) ∧ Hid (Bd w.heap.size w.heap.size t wr) ∧ Below w.heap.size w wr) (fun sz _ => s.size - (Lib.intOf sz).toNat)
  case atStart => exact ⟨0, [], Nat.zero_le _, rfl, Nat.le_refl _, show unesc s.data.toList = _ from by simp, bd_new w, below_alloc1 _ _⟩
  case round =>
    obtain ⟨z, t, hz, rfl, ht, HR, HB, hw⟩ := hrel
    have hl : s.data.toList.length = s.size := by simp
    have cI := fun w => Tryd.strings_Index_one (s.extract z s.size) 0 w
    rw [ext_data] at cI
    rcases ix_cases (s.data.toList.drop z) with ⟨hi, hno⟩ | ⟨p, r, hp, hpn, hi⟩
    · rw [hi] at cI
      have HF : Hid (unesc s.data.toList = none) := by rw [HR.out, unesc_plain _ hno]; rfl
      clear HR hi hno hl
      go_wp2_with fail
      refine (cI _).mono ?_
      rintro e w1 ⟨rfl, h1⟩
      rw [h1]
      go_wp2_with fail
      refine bodyPost_ret (v := .tuple #[.string ⟨#[]⟩, .int .i64 0, .bool false]) (by simp [results, Tryd.results39, go_sem]) rfl ⟨?_, hw⟩
      rw [← HG.out, gT_none HF.out]
      rfl
    · rw [hi] at cI
      have hlen : p.length + 1 + r.length = s.size - z := by
        have := congrArg List.length hp
        simp at this
        omega
      obtain ⟨N, hN⟩ : ∃ N, N = p.length := ⟨_, rfl⟩
      have hex : s.extract z (z + N) = ba p := by
        rw [ext_ba, hp, hN]; simp
      have hdr : s.data.toList.drop (z + N) = 0 :: r := by
        rw [← List.drop_drop, hp, hN]; simp
      have cW : ∀ (w' : World) (hB : Bd w.heap.size w.heap.size t w') (hw : w.heap.size ≤ w'.heap.size), _ := fun w hB hw => bdWrite_any _ _ t (ba p) w hB (by rw [ba_size]; omega) hw
      have cP1 := fun w => Tryd.strings_HasPrefix (s.extract (z + N) s.size) ⟨#[0, 1]⟩ w
      have cP2 := fun w => Tryd.strings_HasPrefix (s.extract (z + N) s.size) ⟨#[0, 255]⟩ w
      rw [ext_data, hdr] at cP1 cP2
      have HR2 : Hid (unesc s.data.toList = (unesc (0 :: r)).map (fun x => ((t ++ p) ++ x.1, x.2))) := by
        show _ = _
        rw [HR.out, hp, unesc_at p _ hpn]
        simp [Function.comp_def]
      have hpd : (ba p).data.toList = p := by simp [ba]
      rw [hpd] at cW
      rw [← hN] at cI hlen
      rw [← hex] at cW
      have hE : (s.extract z (z + N)).size = N := by rw [hex, ba_size, hN]
      have hd2 : Hid (s.data.toList.drop (z + N + 2) = r.drop 1) := by
        rw [← List.drop_drop, hdr]
        rfl
      have hpl : p.length = N := hN.symm
      clear HR hi hp hpn hl hex hpd hN hdr
      cases b1 : Lib.hasPrefix (0 :: r) (⟨#[0, 1]⟩ : ByteArray).data.toList with
      | true =>
        rw [b1] at cP1
        obtain ⟨r1, rfl⟩ : ∃ r1, r = 1 :: r1 := pre_two b1
        have HF : Hid (unesc s.data.toList = some (t ++ p, r1)) := by show _ = _; rw [HR2.out, unesc_1]; simp
        clear HR2 cP2 hd2
        simp only [List.length_cons] at hlen
        go_wp2_with fail
        refine (cI _).mono ?_
        rintro e w1 ⟨rfl, h1⟩
        rw [h1]
        clear h1
        go_wp2_with fail
        refine (cW _ HB.out hw.size).mono ?_
        rintro e w2 ⟨rfl, hB2, hb2⟩
        have hw2 := hw.trans hb2
        have cS := bdString_any _ _ _ _ hB2 hw2.size
        go_wp2_with fail
        refine (cP1 _).mono ?_
        rintro e w3 ⟨rfl, h3⟩
        rw [h3]
        clear h3
        go_wp2_with fail
        refine cS.mono ?_
        rintro e w4 ⟨rfl, hb4⟩
        go_wp2_with fail
        refine bodyPost_ret (v := .tuple #[.string (ba (t ++ p)), .int .i64 ((z : Int) + (N : Int) + 2), .bool true]) (by simp [results, Tryd.results39, go_sem]) rfl ⟨?_, hw2.trans hb4⟩
        rw [← HG.out, gT_some HF.out]
        have : s.data.toList.length - r1.length = z + N + 2 := by
          have : s.data.toList.length = s.size := by simp
          omega
        rw [this]
        rfl
      | false =>
        rw [b1] at cP1
        cases b2 : Lib.hasPrefix (0 :: r) (⟨#[0, 255]⟩ : ByteArray).data.toList with
        | true =>
          rw [b2] at cP2
          obtain ⟨r1, rfl⟩ : ∃ r1, r = 255 :: r1 := pre_two b2
          have HF : Hid (unesc s.data.toList = (unesc (s.data.toList.drop (z + N + 2))).map (fun x => ((t ++ p ++ [0]) ++ x.1, x.2))) := by
            show _ = _
            rw [HR2.out, unesc_255, hd2.out]
            simp [Function.comp_def]
          clear HR2 hd2
          simp only [List.length_cons] at hlen
          go_wp2_with fail
          refine (cI _).mono ?_
          rintro e w1 ⟨rfl, h1⟩
          rw [h1]
          clear h1
          go_wp2_with fail
          refine (cW _ HB.out hw.size).mono ?_
          rintro e w2 ⟨rfl, hB2, hb2⟩
          have hw2 := hw.trans hb2
          have cW2 := bdWrite_any _ _ _ ⟨#[0]⟩ _ hB2 (by rw [List.length_append]; show t.length + p.length + 1 ≤ _; omega) hw2.size
          go_wp2_with fail
          refine (cP1 _).mono ?_
          rintro e w3 ⟨rfl, h3⟩
          rw [h3]
          clear h3
          go_wp2_with fail
          refine (cP2 _).mono ?_
          rintro e w4 ⟨rfl, h4⟩
          rw [h4]
          clear h4
          go_wp2_with fail
          refine cW2.mono ?_
          rintro e w5 ⟨rfl, hB5, hb5⟩
          go_wp2_with fail
          go_roundw
          case rel => exact ⟨z + N + 2, t ++ p ++ [0], by omega, by go_num, by simp only [List.length_append, List.length_singleton]; omega, HF, hB5, hw2.trans hb5⟩
          case measure => simp [Lib.intOf]; omega
        | false =>
          rw [b2] at cP2
          have HF : Hid (unesc s.data.toList = none) := by rw [HR2.out, unesc_no r b1 b2]; rfl
          clear HR2 hd2
          go_wp2_with fail
          refine (cI _).mono ?_
          rintro e w1 ⟨rfl, h1⟩
          rw [h1]
          clear h1
          go_wp2_with fail
          refine (cW _ HB.out hw.size).mono ?_
          rintro e w2 ⟨rfl, hB2, hb2⟩
          have hw2 := hw.trans hb2
          go_wp2_with fail
          refine (cP1 _).mono ?_
          rintro e w3 ⟨rfl, h3⟩
          rw [h3]
          clear h3
          go_wp2_with fail
          refine (cP2 _).mono ?_
          rintro e w4 ⟨rfl, h4⟩
          rw [h4]
          clear h4
          go_wp2_with fail
          refine bodyPost_ret (v := .tuple #[.string ⟨#[]⟩, .int .i64 0, .bool false]) (by simp [results, Tryd.results39, go_sem]) rfl ⟨?_, hw2⟩
          rw [← HG.out, gT_none HF.out]
          rfl

end Go.Proofs.YtijpnlomfodihaaDoor

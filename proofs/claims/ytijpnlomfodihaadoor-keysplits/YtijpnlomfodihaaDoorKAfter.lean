/- The contracts of key.After and of the document's own. -/
import Derived.Test.YtijpnlomfodihaaDoorKPut
import Derived.Test.YtijpnlomfodihaaDoorRefPut
namespace Go.Proofs.YtijpnlomfodihaaDoor
open Go.RowKit

theorem list_at (s : ByteArray) (j : Nat) (h : j < s.size) : s.data.toList[j]? = some s[j] := by
  rw [Array.getElem?_toList]
  exact Array.getElem?_eq_getElem h

theorem aft_none (s : ByteArray) (h : ∀ j, (hj : j < s.size) → s[j] = 255) : aft s.data.toList = [] := by
  refine aft_all ?_
  intro c hc
  obtain ⟨i, hi, rfl⟩ := List.getElem_of_mem hc
  have hi' : i < s.size := by simpa using hi
  have := list_at s i hi'
  rw [List.getElem?_eq_getElem hi] at this
  rw [Option.some.inj this]
  exact h i hi'

theorem aft_some (s : ByteArray) (m : Nat) (hm : m < s.size) (hn : s[m] ≠ 255) (h : ∀ j, m < j → (hj : j < s.size) → s[j] = 255) : aft s.data.toList = s.data.toList.take m ++ [s[m] + 1] := by
  have h1 : s.data.toList = s.data.toList.take m ++ (s[m] :: s.data.toList.drop (m + 1)) := by
    rw [← drop_cons s m hm, List.take_append_drop]
  have h2 : s.data.toList.drop (m + 1) = List.replicate (s.size - (m + 1)) 255 := by
    rw [List.eq_replicate_iff]
    refine ⟨by simp, ?_⟩
    intro c hc
    obtain ⟨i, hi, rfl⟩ := List.getElem_of_mem hc
    rw [List.getElem_drop]
    have hi' : m + 1 + i < s.size := by simp at hi; omega
    have := list_at s (m + 1 + i) hi'
    rw [List.getElem?_eq_getElem (by simpa using hi')] at this
    rw [Option.some.inj this]
    exact h _ (by omega) hi'
  conv => lhs; rw [h1, h2]
  exact aft_at _ _ _ hn

theorem take_ba (s : ByteArray) (m : Nat) : s.extract 0 m = ba (s.data.toList.take m) := by
  have := cut_text2 s 0 m
  simpa using this

set_option maxHeartbeats 800000 in
set_option maxRecDepth 100000 in
theorem after_any (s : ByteArray) (w : World) (hs : s.size ≤ 281474976710656) :
    Calls Tryd.prog 17 #[.string s] w fun e w' => e = .returned (.string (ba (aft s.data.toList))) ∧ Below w.heap.size w w' := by
  obtain ⟨G, hG⟩ : ∃ G, ba (aft s.data.toList) = G := ⟨_, rfl⟩
  have HG : Hid (ba (aft s.data.toList) = G) := hG
  rw [hG]
  clear hG
  go_enter Tryd.func17, Tryd.ntmps17
  go_wp2_with fail
  go_loop [3] (fun si => ∃ k : Nat, k ≤ s.size ∧ si = .int .i64 ((k : Int) - 1) ∧ Hid (∀ j, k ≤ j → (hj : j < s.size) → s[j] = 255)) (fun si => (intOf si + 1).toNat)
  case atStart => exact ⟨s.size, Nat.le_refl _, rfl, show ∀ j, s.size ≤ j → (hj : j < s.size) → s[j] = 255 from fun j h1 h2 => by omega⟩
  case round =>
    obtain ⟨k, hk, rfl, HA⟩ := hrel
    by_cases h0 : k = 0
    · subst h0
      go_wp2_with fail
      go_ret
      refine ⟨?_, Below.refl _ _⟩
      rw [← HG.out, aft_none s (fun j hj => HA.out j (Nat.zero_le _) hj)]
      rfl
    · obtain ⟨m, rfl⟩ : ∃ m, k = m + 1 := ⟨k - 1, by omega⟩
      have hm1 : ((m + 1 : Nat) : Int) - 1 = (m : Int) := by omega
      have hm : m < s.size := by omega
      obtain ⟨c, hc⟩ : ∃ c : Nat, s[m].toNat = c := ⟨_, rfl⟩
      have hc2 : c < 256 := by rw [← hc]; exact s[m].toNat_lt
      by_cases hf : c = 255
      · subst hf
        go_wp2_with fail
        go_round
        case rel =>
          refine ⟨m, by omega, ?_, ?_⟩
          · go_num
          · show ∀ j, m ≤ j → (hj : j < s.size) → s[j] = 255
            intro j h1 h2
            by_cases e : j = m
            · subst e; exact UInt8.toNat_inj.1 (by rw [hc]; rfl)
            · exact HA.out j (by omega) h2
        case measure => simp [intOf]
      · have hf' : ((c : Int) == 255) = false := by rw [beq_eq_false_iff_ne]; omega
        have cO := fun w => kOneByte_any (c + 1) (by omega) w
        have hex := take_ba s m
        have HF : Hid (G = ba (s.data.toList.take m ++ [UInt8.ofNat (c + 1)])) := by
          show G = _
          rw [← HG.out, aft_some s m hm (fun e => hf (by rw [← hc, e]; rfl)) (fun j h1 h2 => HA.out j (by omega) h2)]
          congr 3
          rw [← UInt8.toNat_inj, UInt8.toNat_add, hc]
          simp
        have ew : IntKind.u8.wrap ((c : Int) + 1) = ((c + 1 : Nat) : Int) := by rw [IntKind.wrap_u8']; omega
        have hadd : ∀ W, (Op.stringOp .add (s.extract 0 m) (ba [UInt8.ofNat (c + 1)])).run Tryd.prog W = .ok (.string G) W := by
          intro W
          rw [run_string_add_sum (P := Tryd.prog) W _ _ (by rw [hex, ba_size, ba_size]; simp; omega), hex, ba_cat, ← HF.out]
        have hz : (s.extract 0 m).size = m := by simp; omega
        clear HA HG HF hex
        generalize hT : s.extract 0 m = T at *
        generalize hX : ba [UInt8.ofNat (c + 1)] = X at *
        go_wp2_with fail
        go_region_with (go_at_call 30; refine (cO _).mono ?_; rintro e w1 ⟨rfl, hb1⟩)
        all_goals go_wp2_with fail
        all_goals go_ret
        all_goals exact ⟨rfl, ((Below.refl _ _).drew).trans hb1⟩

set_option maxHeartbeats 800000 in
set_option maxRecDepth 100000 in
theorem refAfter_any (s : ByteArray) (w : World) (hs : s.size ≤ 281474976710656) :
    Calls Tryd.prog 18 #[.string s] w fun e w' => e = .returned (.string (ba (aft s.data.toList))) ∧ Below w.heap.size w w' := by
  obtain ⟨G, hG⟩ : ∃ G, ba (aft s.data.toList) = G := ⟨_, rfl⟩
  have HG : Hid (ba (aft s.data.toList) = G) := hG
  rw [hG]
  clear hG
  go_enter Tryd.func18, Tryd.ntmps18
  go_wp2_with fail
  go_loop [3] (fun si => ∃ k : Nat, k ≤ s.size ∧ si = .int .i64 ((k : Int) - 1) ∧ Hid (∀ j, k ≤ j → (hj : j < s.size) → s[j] = 255)) (fun si => (intOf si + 1).toNat)
  case atStart => exact ⟨s.size, Nat.le_refl _, rfl, show ∀ j, s.size ≤ j → (hj : j < s.size) → s[j] = 255 from fun j h1 h2 => by omega⟩
  case round =>
    obtain ⟨k, hk, rfl, HA⟩ := hrel
    by_cases h0 : k = 0
    · subst h0
      go_wp2_with fail
      go_ret
      refine ⟨?_, Below.refl _ _⟩
      rw [← HG.out, aft_none s (fun j hj => HA.out j (Nat.zero_le _) hj)]
      rfl
    · obtain ⟨m, rfl⟩ : ∃ m, k = m + 1 := ⟨k - 1, by omega⟩
      have hm1 : ((m + 1 : Nat) : Int) - 1 = (m : Int) := by omega
      have hm : m < s.size := by omega
      obtain ⟨c, hc⟩ : ∃ c : Nat, s[m].toNat = c := ⟨_, rfl⟩
      have hc2 : c < 256 := by rw [← hc]; exact s[m].toNat_lt
      by_cases hf : c = 255
      · subst hf
        go_wp2_with fail
        go_round
        case rel =>
          refine ⟨m, by omega, ?_, ?_⟩
          · go_num
          · show ∀ j, m ≤ j → (hj : j < s.size) → s[j] = 255
            intro j h1 h2
            by_cases e : j = m
            · subst e; exact UInt8.toNat_inj.1 (by rw [hc]; rfl)
            · exact HA.out j (by omega) h2
        case measure => simp [intOf]
      · have hf' : ((c : Int) == 255) = false := by rw [beq_eq_false_iff_ne]; omega
        have hex := take_ba s m
        obtain ⟨b, hb⟩ : ∃ b, b = UInt8.ofNat (c + 1) := ⟨_, rfl⟩
        have hbn : (b.toNat : Int) = (c : Int) + 1 := by rw [hb, byte_low _ (by omega)]; omega
        have HF : Hid (G = ba (s.data.toList.take m ++ [b])) := by
          show G = _
          rw [← HG.out, aft_some s m hm (fun e => hf (by rw [← hc, e]; rfl)) (fun j h1 h2 => HA.out j (by omega) h2), hb]
          congr 3
          rw [← UInt8.toNat_inj, UInt8.toNat_add, hc]
          simp
        have ew : IntKind.u8.wrap ((c : Int) + 1) = (c : Int) + 1 := by rw [IntKind.wrap_u8']; omega
        have HT : ∀ (W : World) (B : Nat), W.cell? ⟨B, 0, none⟩ = some (.int .u8 ((c : Int) + 1)) → (convert 46 9 (.slice (some ⟨B, 0, none⟩) 1 1)).run Tryd.prog W = .ok (.string (ba [b])) W := fun W B hW => one_text W B b (by rw [hbn]; exact hW)
        have hadd : ∀ W, (Op.stringOp .add (s.extract 0 m) (ba [b])).run Tryd.prog W = .ok (.string G) W := by
          intro W
          rw [run_string_add_sum (P := Tryd.prog) W _ _ (by rw [hex, ba_size, ba_size]; simp; omega), hex, ba_cat, ← HF.out]
        have hz : (s.extract 0 m).size = m := by simp; omega
        clear HA HG HF hex hbn hb
        generalize hT : s.extract 0 m = T at *
        generalize hX : ba [b] = X at *
        go_wp2_with fail
        go_region
        all_goals go_wp2_with fail
        all_goals go_ret
        all_goals exact ⟨rfl, (below_alloc1 _ _).drew⟩

end Go.Proofs.YtijpnlomfodihaaDoor

/- The document's own Split: the walk. -/
import Derived.Test.YtijpnlomfodihaaDoorKRefSplit
namespace Go.Proofs.YtijpnlomfodihaaDoor
open Go.RowKit

theorem VRow.far {w W2 : World} {v u : Value} {A : List V} {H i : Nat} (h : VRow w W2 v A) (hH : ∀ k, v.ownBlock = some k → k ≠ H) (hw : w.heap.size ≤ H) : VRow w (W2.setCell ⟨H, i, none⟩ u) v A := by
  refine ⟨?_, h.root.setCell (p := ⟨H, i, none⟩) hw u⟩
  obtain ⟨h1, h2⟩ := h.own
  refine ⟨h1, ?_⟩
  rcases h2 with h2 | ⟨g, cap, cur, rfl, hg, hh, r⟩
  · exact Or.inl h2
  · refine Or.inr ⟨g, cap, cur, rfl, hg, ?_, r⟩
    rw [Below.heap_setCell _ _ _ _ (hH g rfl)]
    exact hh

theorem unesc_0n : unesc [0] = none := by rw [unesc.eq_def]; rfl
theorem unesc_0x (e : UInt8) (r : List UInt8) (h1 : e ≠ 1) (h2 : e ≠ 255) : unesc (0 :: e :: r) = none := by
  rw [unesc.eq_def]
  simp [h1, h2]
theorem unesc_c (c : UInt8) (r : List UInt8) (h : c ≠ 0) : unesc (c :: r) = (unesc r).map (fun x => (c :: x.1, x.2)) := by
  rw [unesc.eq_def]
  simp [h]

set_option maxHeartbeats 8000000 in
set_option maxRecDepth 100000 in
theorem refSplit_small (s : ByteArray) (w : World) (hs : s.size ≤ 4096) :
    Calls Tryd.prog 16 #[.string s] w fun e w' => SpGot w w' e (spL s.data.toList) (spE s.data.toList) := by
  have hl : s.data.toList.length = s.size := by simp
  obtain ⟨S, hS⟩ : ∃ S, S = s.data.toList := ⟨_, rfl⟩
  rw [← hS] at hl ⊢
  have HS : Hid (S = s.data.toList) := hS
  have HL : Hid (S.length = s.size) := hl
  have HL4 : Hid (S.length ≤ 4096) := by
    show S.length ≤ 4096
    omega
  clear hS hl
  go_enter Tryd.func16, Tryd.ntmps16
  go_wp2_with fail
  go_loopw [4, 5] (fun sl sz wr => ∃ (z : Nat) (A : List V), z ≤ s.size ∧ sz = .int .i64 (z : Int) ∧ A.length ≤ z ∧ VRow w wr sl A ∧ Hid (Fit A) ∧ Hid (S = kvs A ++ S.drop z)) (fun _ sz _ => s.size - (Lib.intOf sz).toNat)
  case atStart => exact ⟨0, [], Nat.zero_le _, rfl, Nat.le_refl _, ⟨World.ownsRow_nil _ _ _ _, Below.refl _ _⟩, show Fit [] from fun v hv => by simp at hv, show S = kvs [] ++ S.drop 0 from rfl⟩
  case round =>
    obtain ⟨z, A, hz, rfl, hAz, hat, HF, HE⟩ := hrel
    by_cases hlt : z < s.size
    · have hdz : S.drop z = s[z] :: S.drop (z + 1) := by rw [HS.out]; exact drop_cons s z hlt
      obtain ⟨cc, hcc⟩ : ∃ cc, s[z] = cc := ⟨_, rfl⟩
      have hc : s[z].toNat = cc.toNat := by rw [hcc]
      rw [hcc] at hdz
      clear hcc
      have hc2 := cc.toNat_lt
      have hne : S.drop z ≠ [] := by rw [hdz]; simp
      have hstk : dec1 (S.drop z) = none → Hid (spL S = [] ∧ spE S = 11) := fun h => sp_stuck HL4.out HE.out HF.out hne h
      have hstp := fun (v : V) (y : Nat) (h : dec1 (S.drop z) = some (v, S.drop y)) => sp_step HF.out HE.out h
      have hA : A.length ≤ 4096 := by omega
      rw [hdz] at hstk hstp
      clear hdz hne HF HE
      by_cases c0 : cc = 0
      · subst c0
        obtain ⟨f1, f2⟩ := hstp _ (z + 1) (d_0 _)
        have HF2 : Hid (Fit _) := f1
        have HE2 : Hid (S = _) := f2
        clear hstk hstp f1 f2
        have hc' : s[z].toNat = 0 := hc
        have hat2 := (hat.alloc (.cells #[.int .i64 0, .int .i64 0, .string ⟨#[]⟩] 43)).alloc (.cells #[.int .i64 0, .int .i64 0, .string ⟨#[]⟩] 43)
        clear hc
        go_wp2_with (at_builtin; refine wpList_append_vals rfl (.tmp 131) (.tmp 133) rfl w _ _ A [⟨0, 0, ba []⟩] rfl hat2 (some ⟨_, 0, none⟩) 1 rfl (fun h => by cases h) (cellsAt_new (p := ⟨0, 0, ba []⟩) (by simp)) (by simp only [List.length_singleton]; omega) ?_; intro v3 w3 hat3)
        go_roundw
        case rel => exact ⟨z + 1, A ++ [⟨0, 0, ba []⟩], by omega, by go_num, by simp; omega, hat3, HF2, HE2⟩
        case measure => simp [Lib.intOf]; omega
      · by_cases c1 : cc = 1
        · subst c1
          have hc' : s[z].toNat = 1 := hc
          clear hc c0 hc2
          by_cases h1 : z + 1 < s.size
          · have hd1 : S.drop (z + 1) = s[z + 1] :: S.drop (z + 2) := by rw [HS.out]; exact drop_cons s (z + 1) h1
            obtain ⟨d, hdd⟩ : ∃ d, s[z + 1] = d := ⟨_, rfl⟩
            have hd : s[z + 1].toNat = d.toNat := by rw [hdd]
            rw [hdd] at hd1
            rw [hd1] at hstk hstp
            have hd2 := d.toNat_lt
            clear hdd hd1
            by_cases hb : 1 < d.toNat
            · have HQ := hstk (d_1b d _ hb)
              clear hstk hstp
              go_wp2_with fail
              refine bodyPost_ret (v := .tuple #[.slice none 0 0, .int .i64 11]) (by simp [results, Tryd.results16, go_sem]) rfl ?_
              rw [HQ.out.1, HQ.out.2]
              exact SpGot.no (below2 hat.root (below_alloc1 _ _))
            · obtain ⟨f1, f2⟩ := hstp _ (z + 2) (d_1 d _ (by omega))
              have HF2 : Hid (Fit _) := f1
              have HE2 : Hid (S = _) := f2
              clear hstk hstp f1 f2
              have hat2 := (hat.alloc (.cells #[.int .i64 1, .int .i64 (d.toNat : Int), .string ⟨#[]⟩] 43)).alloc (.cells #[.int .i64 1, .int .i64 (d.toNat : Int), .string ⟨#[]⟩] 43)
              go_wp2_with (at_builtin; refine wpList_append_vals rfl (.tmp 131) (.tmp 133) rfl w _ _ A [⟨1, d.toNat, ba []⟩] rfl hat2 (some ⟨_, 0, none⟩) 1 rfl (fun h => by cases h) (cellsAt_new (p := ⟨1, d.toNat, ba []⟩) (by simp)) (by simp only [List.length_singleton]; omega) ?_; intro v3 w3 hat3)
              go_roundw
              case rel => exact ⟨z + 2, A ++ [⟨1, d.toNat, ba []⟩], by omega, by go_num, by simp; omega, hat3, HF2, HE2⟩
              case measure => simp [Lib.intOf]; omega
          · rw [List.drop_of_length_le (by rw [HL.out]; omega)] at hstk
            have HQ := hstk d_1n
            clear hstk hstp
            go_wp2_with fail
            refine bodyPost_ret (v := .tuple #[.slice none 0 0, .int .i64 11]) (by simp [results, Tryd.results16, go_sem]) rfl ?_
            rw [HQ.out.1, HQ.out.2]
            exact SpGot.no (below2 hat.root (below_alloc1 _ _))
        · by_cases c2 : cc = 2
          · subst c2
            have hc' : s[z].toNat = 2 := hc
            clear hc c0 c1 hc2
            have hRl : (S.drop (z + 1)).length = s.size - (z + 1) := by rw [List.length_drop, HL.out]
            by_cases h8 : s.size - (z + 1) < 8
            · have HQ := hstk (d_2n _ (by rw [hRl]; exact h8))
              clear hstk hstp
              have h8' : (s.size : Int) - ((z : Int) + 1) < 8 := by omega
              go_wp2_with fail
              refine bodyPost_ret (v := .tuple #[.slice none 0 0, .int .i64 11]) (by simp [results, Tryd.results16, go_sem]) rfl ?_
              rw [HQ.out.1, HQ.out.2]
              exact SpGot.no (below2 hat.root (below_alloc1 _ _))
            · have hd2 := d_2 (S.drop (z + 1)) (by rw [hRl]; exact h8)
              rw [List.drop_drop] at hd2
              obtain ⟨f1, f2⟩ := hstp _ _ hd2
              have HF2 : Hid (Fit _) := f1
              have HE2 : Hid (S = _) := f2
              clear hstk hstp f1 f2 hd2
              have h8' : ¬ (s.size : Int) - ((z : Int) + 1) < 8 := by omega
              go_wp2_with fail
              go_loop [7, 8] (fun su si => ∃ k U : Nat, k ≤ 8 ∧ si = .int .i64 (k : Int) ∧ su = .int .u64 (U : Int) ∧ Hid (U = ofBe ((S.drop (z + 1)).take k)) ∧ Hid (U < 256 ^ k)) (fun _ si => 8 - (intOf si).toNat)
              case atStart => exact ⟨0, 0, by omega, rfl, rfl, show 0 = ofBe ((S.drop (z + 1)).take 0) from rfl, show 0 < 256 ^ 0 from by omega⟩
              case round =>
                obtain ⟨k, U, hk, rfl, rfl, HU, HL2⟩ := hrel
                by_cases hk8 : k < 8
                · have hks : z + 1 + k < s.size := by omega
                  obtain ⟨c, hcc⟩ : ∃ c : Nat, s[z + 1 + k].toNat = c := ⟨_, rfl⟩
                  have hcl : c < 256 := by rw [← hcc]; exact s[z + 1 + k].toNat_lt
                  have hU7 : U < 72057594037927936 := Nat.lt_of_lt_of_le HL2.out (Nat.pow_le_pow_right (by omega) (show k ≤ 7 by omega))
                  have HN : Hid (U * 256 + c = ofBe ((S.drop (z + 1)).take (k + 1))) := by
                    show U * 256 + c = _
                    rw [List.take_succ_eq_append_getElem (by rw [hRl]; omega), ofBe_snoc, ← HU.out, List.getElem_drop]
                    have := list_at s (z + 1 + k) hks
                    rw [← HS.out, List.getElem?_eq_getElem (by rw [HL.out]; exact hks)] at this
                    rw [Option.some.inj this, hcc]
                  have HN2 : Hid (U * 256 + c < 256 ^ (k + 1)) := by
                    have := HL2.out
                    rw [Nat.pow_succ]
                    show U * 256 + c < 256 ^ k * 256
                    omega
                  clear HU HL2
                  go_wp2_with fail
                  go_round
                  case rel => exact ⟨k + 1, U * 256 + c, by omega, by go_num, by go_num, HN, HN2⟩
                  case measure => simp [intOf]; omega
                · obtain rfl : k = 8 := by omega
                  have hU8 : U < 18446744073709551616 := HL2.out
                  have hw2 := xor_back U hU8
                  rw [← HU.out] at HF2 HE2
                  have hat2 := (hat.alloc (.cells #[.int .i64 2, .int .i64 ((U : Int) - 9223372036854775808), .string ⟨#[]⟩] 43)).alloc (.cells #[.int .i64 2, .int .i64 ((U : Int) - 9223372036854775808), .string ⟨#[]⟩] 43)
                  clear HU HL2
                  go_wp2_with (at_builtin; refine wpList_append_vals rfl (.tmp 131) (.tmp 133) rfl w _ _ A [⟨2, (U : Int) - 9223372036854775808, ba []⟩] rfl hat2 (some ⟨_, 0, none⟩) 1 rfl (fun h => by cases h) (cellsAt_new (p := ⟨2, (U : Int) - 9223372036854775808, ba []⟩) (by simp)) (by simp only [List.length_singleton]; omega) ?_; intro v3 w3 hat3)
                  go_roundw
                  case rel => exact ⟨z + 1 + 8, A ++ [⟨2, (U : Int) - 9223372036854775808, ba []⟩], by omega, by go_num, by simp; omega, hat3, HF2, HE2⟩
                  case measure => simp [Lib.intOf]; omega
          · by_cases c3 : cc = 3
            · subst c3
              have hc' : s[z].toNat = 3 := hc
              clear hc c0 c1 c2 hc2
              obtain ⟨W1, hW1⟩ : ∃ W1, W1 = wr.alloc (.cells #[.int .i64 3, .int .i64 0, .string ⟨#[]⟩] 43) := ⟨_, rfl⟩
              obtain ⟨H, hH⟩ : ∃ H, H = wr.heap.size := ⟨_, rfl⟩
              have hat1 : VRow w W1 u4 A := by rw [hW1]; exact hat.alloc _
              have hfar : ∀ k, u4.ownBlock = some k → k ≠ H := fun k hk => by have := (hat.own.lt k hk).2; omega
              have hHw : w.heap.size ≤ H := by rw [hH]; exact hat.root.size
              have hHW : H < W1.heap.size := by rw [hW1, hH]; simp
              have hp0 : W1.cell? ⟨H, 0, none⟩ = some (.int .i64 3) ∧ W1.cell? ⟨H, 1, none⟩ = some (.int .i64 0) ∧ W1.cell? ⟨H, 2, none⟩ = some (.string ⟨#[]⟩) ∧ W1.frozen? ⟨H, 2, none⟩ = false := by
                rw [hW1, hH]
                refine ⟨?_, ?_, ?_, ?_⟩ <;> simp
              have hpk : ∀ W2, Below W1.heap.size W1 W2 → W2.cell? ⟨H, 0, none⟩ = some (.int .i64 3) ∧ W2.cell? ⟨H, 1, none⟩ = some (.int .i64 0) ∧ W2.cell? ⟨H, 2, none⟩ = some (.string ⟨#[]⟩) ∧ W2.frozen? ⟨H, 2, none⟩ = false := fun W2 hb =>
                ⟨(hb.cell (p := ⟨H, 0, none⟩) hHW).trans hp0.1, (hb.cell (p := ⟨H, 1, none⟩) hHW).trans hp0.2.1, (hb.cell (p := ⟨H, 2, none⟩) hHW).trans hp0.2.2.1, (hb.frozen (p := ⟨H, 2, none⟩) hHW).trans hp0.2.2.2⟩
              clear hp0
              go_wp2_with fail
              rw [← hW1, ← hH]
              clear hW1 hH hat
              go_loopw [5, 9] (fun sy sb w2 => ∃ (y : Nat) (t : List UInt8), y ≤ s.size ∧ sy = .int .i64 (y : Int) ∧ t.length ≤ y ∧ z + 1 ≤ y ∧ BRow W1 w2 sb t ∧ Hid (unesc (S.drop (z + 1)) = (unesc (S.drop y)).map (fun x => (t ++ x.1, x.2)))) (fun sy _ _ => s.size - (Lib.intOf sy).toNat)
              case atStart => exact ⟨z + 1, [], by omega, by go_num, Nat.zero_le _, Nat.le_refl _, BRow.nil W1, show unesc _ = _ from by simp⟩
              case round =>
                obtain ⟨y, t, hy, rfl, hty, hzy, hv, HR⟩ := hrel
                have hbel := below2 hat1.root hv.root
                by_cases hys : y < s.size
                · have hdy : S.drop y = s[y] :: S.drop (y + 1) := by rw [HS.out]; exact drop_cons s y hys
                  obtain ⟨d, hdd⟩ : ∃ d, s[y] = d := ⟨_, rfl⟩
                  have hd : s[y].toNat = d.toNat := by rw [hdd]
                  rw [hdd] at hdy
                  have hd2 := d.toNat_lt
                  clear hdd
                  by_cases d0 : d = 0
                  · subst d0
                    have hd' : s[y].toNat = 0 := hd
                    clear hd hd2
                    by_cases hy1 : y + 1 < s.size
                    · have hde : S.drop (y + 1) = s[y + 1] :: S.drop (y + 2) := by rw [HS.out]; exact drop_cons s (y + 1) hy1
                      obtain ⟨e, hee⟩ : ∃ e, s[y + 1] = e := ⟨_, rfl⟩
                      have he : s[y + 1].toNat = e.toNat := by rw [hee]
                      rw [hee] at hde
                      have he2 := e.toNat_lt
                      clear hee
                      by_cases e1 : e = 1
                      · subst e1
                        have he' : s[y + 1].toNat = 1 := he
                        clear he he2
                        have HU : unesc (S.drop (z + 1)) = some (t, S.drop (y + 2)) := by rw [HR.out, hdy, hde, unesc_1]; simp
                        clear HR hdy hde
                        obtain ⟨k0, k1, k2, k3⟩ := hpk _ hv.root
                        have htx := hv.text
                        obtain ⟨a9, c9, hv9⟩ := hv.slice
                        subst hv9
                        by_cases ht : 1024 < t.length
                        · have HQ := hstk (d_3l _ t _ HU ht)
                          clear hstk hstp HU
                          go_wp2_with fail
                          refine bodyPost_ret (v := .tuple #[.slice none 0 0, .int .i64 11]) (by simp [results, Tryd.results16, go_sem]) rfl ?_
                          rw [HQ.out.1, HQ.out.2]
                          exact SpGot.no (hbel.setCell (p := ⟨H, 2, none⟩) hHw _)
                        · obtain ⟨f1, f2⟩ := hstp _ _ (d_3 _ t _ HU (by omega))
                          have HF2 : Hid (Fit _) := f1
                          have HE2 : Hid (S = _) := f2
                          clear hstk hstp f1 f2 HU
                          have hat2 := ((hat1.below hv.root).far (u := .string (ba t)) (i := 2) hfar hHw).alloc (.cells #[.int .i64 3, .int .i64 0, .string (ba t)] 43)
                          go_wp2_with (at_builtin; refine wpList_append_vals rfl (.tmp 131) (.tmp 133) rfl w _ _ A [⟨3, 0, ba t⟩] rfl hat2 (some ⟨_, 0, none⟩) 1 rfl (fun h => by cases h) (cellsAt_new (p := ⟨3, 0, ba t⟩) (by simp)) (by simp only [List.length_singleton]; omega) ?_; intro v3 w3 hat3)
                          go_roundw
                          case rel => exact ⟨y + 2, A ++ [⟨3, 0, ba t⟩], by omega, by go_num, by simp; omega, hat3, HF2, HE2⟩
                          case measure => simp [Lib.intOf]; omega
                      · by_cases e2 : e = 255
                        · subst e2
                          have he' : s[y + 1].toNat = 255 := he
                          clear he he2 e1
                          have HR2 : Hid (unesc (S.drop (z + 1)) = (unesc (S.drop (y + 2))).map (fun x => ((t ++ [0]) ++ x.1, x.2))) := by
                            show _ = _
                            rw [HR.out, hdy, hde, unesc_255]
                            simp [Function.comp_def]
                          clear HR hdy hde
                          have hv2 := hv.alloc (.cells #[.int .u8 0] 5)
                          go_wp2_with (at_builtin; refine wpList_append_bytes rfl (.tmp 122) (.tmp 123) rfl _ _ _ t [0] rfl hv2 ⟨_, 0, none⟩ 1 1 rfl rfl (newB1 rfl rfl) (by rw [List.length_singleton]; omega) ?_; intro v8 w8 hv8)
                          go_roundw
                          case rel => exact ⟨y + 2, t ++ [0], by omega, by go_num, by simp; omega, by omega, hv8, HR2⟩
                          case measure => simp [Lib.intOf]; omega
                        · have hn : ∀ (k : UInt8), e ≠ k → ((e.toNat : Int) == (k.toNat : Int)) = false := fun k hk => by
                            rw [beq_eq_false_iff_ne]
                            intro h
                            exact hk (UInt8.toNat_inj.1 (by omega))
                          have q1 : ((e.toNat : Int) == 1) = false := hn 1 e1
                          have q2 : ((e.toNat : Int) == 255) = false := hn 255 e2
                          have HQ := hstk (d_3n _ (by rw [HR.out, hdy, hde, unesc_0x e _ e1 e2]; rfl))
                          clear hstk hstp HR hdy hde hn e1 e2
                          go_wp2_with fail
                          refine bodyPost_ret (v := .tuple #[.slice none 0 0, .int .i64 11]) (by simp [results, Tryd.results16, go_sem]) rfl ?_
                          rw [HQ.out.1, HQ.out.2]
                          exact SpGot.no hbel
                    · have hde : S.drop (y + 1) = [] := List.drop_of_length_le (by rw [HL.out]; omega)
                      have HQ := hstk (d_3n _ (by rw [HR.out, hdy, hde, unesc_0n]; rfl))
                      clear hstk hstp HR hdy hde
                      go_wp2_with fail
                      refine bodyPost_ret (v := .tuple #[.slice none 0 0, .int .i64 11]) (by simp [results, Tryd.results16, go_sem]) rfl ?_
                      rw [HQ.out.1, HQ.out.2]
                      exact SpGot.no hbel
                  · have hn : ((d.toNat : Int) == 0) = false := by
                      rw [beq_eq_false_iff_ne]
                      intro h
                      exact d0 (UInt8.toNat_inj.1 (by simpa using h))
                    have HR2 : Hid (unesc (S.drop (z + 1)) = (unesc (S.drop (y + 1))).map (fun x => ((t ++ [d]) ++ x.1, x.2))) := by
                      show _ = _
                      rw [HR.out, hdy, unesc_c d _ d0]
                      simp [Function.comp_def]
                    clear HR hdy d0
                    have hv2 := hv.alloc (.cells #[.int .u8 (d.toNat : Int)] 5)
                    go_wp2_with (at_builtin; refine wpList_append_bytes rfl (.tmp 97) (.tmp 101) rfl _ _ _ t [d] rfl hv2 ⟨_, 0, none⟩ 1 1 rfl rfl (newB1 rfl rfl) (by rw [List.length_singleton]; omega) ?_; intro v8 w8 hv8)
                    go_roundw
                    case rel => exact ⟨y + 1, t ++ [d], by omega, by go_num, by simp; omega, by omega, hv8, HR2⟩
                    case measure => simp [Lib.intOf]; omega
                · have hdy : S.drop y = [] := List.drop_of_length_le (by rw [HL.out]; omega)
                  have HQ := hstk (d_3n _ (by rw [HR.out, hdy]; rfl))
                  clear hstk hstp HR hdy
                  go_wp2_with fail
                  refine bodyPost_ret (v := .tuple #[.slice none 0 0, .int .i64 11]) (by simp [results, Tryd.results16, go_sem]) rfl ?_
                  rw [HQ.out.1, HQ.out.2]
                  exact SpGot.no hbel
            · have HQ := hstk (d_x cc _ c0 c1 c2 c3)
              have hn : ∀ (k : UInt8), cc ≠ k → ((cc.toNat : Int) == (k.toNat : Int)) = false := fun k hk => by
                rw [beq_eq_false_iff_ne]
                intro h
                exact hk (UInt8.toNat_inj.1 (by omega))
              have e0 : ((cc.toNat : Int) == 0) = false := hn 0 c0
              have e1 : ((cc.toNat : Int) == 1) = false := hn 1 c1
              have e2 : ((cc.toNat : Int) == 2) = false := hn 2 c2
              have e3 : ((cc.toNat : Int) == 3) = false := hn 3 c3
              clear hstk hstp c0 c1 c2 c3 hn
              go_wp2_with fail
              refine bodyPost_ret (v := .tuple #[.slice none 0 0, .int .i64 11]) (by simp [results, Tryd.results16, go_sem]) rfl ?_
              rw [HQ.out.1, HQ.out.2]
              exact SpGot.no (below2 hat.root (below_alloc1 _ _))
    · obtain rfl : z = s.size := by omega
      obtain ⟨a, cap, hv, hsl, hn⟩ := owns_slV hat.own
      subst hv
      go_wp2_with fail
      refine bodyPost_ret (v := .tuple #[.slice a A.length cap, .int .i64 0]) (by simp [results, Tryd.results16, go_sem]) rfl ?_
      obtain ⟨q1, q2⟩ := sp_end HL4.out (show S = kvs A by
        have := HE.out
        rw [List.drop_of_length_le (by rw [HL.out]; omega), List.append_nil] at this
        exact this) HF.out
      rw [q1, q2]
      exact ⟨a, cap, rfl, hsl, hn, hat.root⟩

end Go.Proofs.YtijpnlomfodihaaDoor

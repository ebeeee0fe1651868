/- The contracts of key.fits, key.together, key.Make. -/
import Derived.Test.YtijpnlomfodihaaDoorKText
import Derived.Test.YtijpnlomfodihaaDoorKVals
namespace Go.Proofs.YtijpnlomfodihaaDoor
open Go.RowKit

set_option maxHeartbeats 800000 in
theorem kfits_any (v : V) (w : World) : Calls Tryd.prog 23 #[v.val] w fun e w' => e = .returned (.bool (kfit v)) ∧ Below w.heap.size w w' := by
  have c := fun w => good_any v w
  unfold kfit
  by_cases hb : blankB v = true
  · obtain rfl : v = ⟨0, 0, ba []⟩ := by
      obtain ⟨k, n, s⟩ := v
      simp only [blankB, Bool.and_eq_true, decide_eq_true_eq] at hb
      obtain ⟨rfl, rfl, hs⟩ := hb
      rw [size_zero s hs]; rfl
    rw [hb, Bool.true_or]
    clear c hb
    simp only [V.val, ba]
    go_enter Tryd.func23, Tryd.ntmps23
    go_wp2_with fail
    go_ret
    exact ⟨rfl, below_alloc1 _ _⟩
  · have hb' : blankB v = false := by simpa using hb
    rw [hb', Bool.false_or]
    obtain ⟨g, hg⟩ : ∃ g, goodB v = g := ⟨_, rfl⟩
    rw [hg] at c ⊢
    obtain ⟨k, n, s⟩ := v
    simp only [blankB, Bool.and_eq_true, decide_eq_true_eq] at hb
    clear hb' hg
    simp only [V.val] at c ⊢
    by_cases h0 : k = 0
    · subst h0
      by_cases h1 : n = 0
      · subst h1
        have h2 := list_some s (fun e => hb ⟨rfl, rfl, e⟩)
        clear hb
        go_enter Tryd.func23, Tryd.ntmps23
        go_wp2_with fail
        refine (c _).mono ?_
        rintro e w1 ⟨rfl, hb1⟩
        go_wp2_with fail
        go_ret
        exact ⟨rfl, below2 (below_alloc1 _ _) hb1⟩
      · have h2 := ne_beq h1
        clear hb
        go_enter Tryd.func23, Tryd.ntmps23
        go_wp2_with fail
        refine (c _).mono ?_
        rintro e w1 ⟨rfl, hb1⟩
        go_wp2_with fail
        go_ret
        exact ⟨rfl, below2 (below_alloc1 _ _) hb1⟩
    · have h2 := ne_beq h0
      clear hb
      go_enter Tryd.func23, Tryd.ntmps23
      go_wp2_with fail
      refine (c _).mono ?_
      rintro e w1 ⟨rfl, hb1⟩
      go_wp2_with fail
      go_ret
      exact ⟨rfl, below2 (below_alloc1 _ _) hb1⟩

theorem Bd.below {B b : Nat} {l : List UInt8} {w w' : World} (h : Bd B b l w) (hb : Below w.heap.size w w') : Bd B b l w' := by
  have go : ∀ p, Lib.BuilderAt 56 5 B b p (Lib.byteCells l) w → Lib.BuilderAt 56 5 B b p (Lib.byteCells l) w' := by
    intro p h
    have hlt := h.lt
    obtain ⟨h1, v, h2, h3, h4⟩ := h
    exact ⟨h1, v, by rw [hb.block b hlt]; exact h2, owns_below h3 hb, h4⟩
  rcases h with h | h
  · exact Or.inl (go _ h)
  · exact Or.inr (go _ h)

theorem kvs_take (L : List V) (k : Nat) (h : k < L.length) : kvs (L.take (k + 1)) = kvs (L.take k) ++ kv L[k] := by
  rw [List.take_succ_eq_append_getElem h, kvs_append]
  simp [kvs]

theorem kvs_take_le (L : List V) (k : Nat) : (kvs (L.take k)).length ≤ (kvs L).length := by
  have : kvs L = kvs (L.take k) ++ kvs (L.drop k) := by rw [← kvs_append, List.take_append_drop]
  rw [this]; simp

theorem kv_len {v : V} (h : kfit v = true) : (kv v).length ≤ 2051 := by
  rcases fit_cases h with rfl | ⟨n, rfl, hn⟩ | ⟨n, rfl⟩ | ⟨s, rfl, hs⟩
  · simp [kv]
  · simp [kv]
  · simp [kv, be_length]
  · have := (esc_length s.data.toList).2
    have : s.data.toList.length = s.size := by simp
    simp [kv]
    omega

/-- What together answers. -/
def tg (L : List V) : Value := .tuple #[.string (ba (if (kvs L).length ≤ 4096 then kvs L else [])), .bool (decide ((kvs L).length ≤ 4096))]

set_option maxHeartbeats 800000 in
set_option maxRecDepth 100000 in
theorem together_some (L : List V) (b off cap : Nat) (w : World) (hb : b < w.heap.size) (hr : RdV w b off L) (hf : Fit L) (hm : ML w) (hl : L.length ≤ 1000000) :
    Calls Tryd.prog 24 #[.slice (some ⟨b, off, none⟩) L.length cap] w fun e w' => e = .returned (tg L) ∧ Below w.heap.size w w' := by
  go_enter Tryd.func24, Tryd.ntmps24
  go_wp2_with fail
  go_loopw [10] (fun si wr => ∃ k : Nat, k ≤ L.length ∧ si = .int .i64 (k : Int) ∧ Hid ((kvs (L.take k)).length ≤ 4096) ∧ Hid (Bd w.heap.size w.heap.size (kvs (L.take k)) wr) ∧ Below w.heap.size w wr) (fun si _ => L.length - (Lib.intOf si).toNat)
  case atStart => exact ⟨0, Nat.zero_le _, rfl, show (kvs (L.take 0)).length ≤ 4096 from by simp [kvs], bd_new w, below_alloc1 _ _⟩
  case round =>
    obtain ⟨k, hk, rfl, HN, HB, hw⟩ := hrel
    by_cases hlt : k < L.length
    · obtain ⟨e0, e1, e2⟩ := (hr.kept hw hb) k L[k] (by simp [hlt])
      have hfk := hf L[k] (List.getElem_mem hlt)
      have cP := fun w h => kput_any L[k] w hfk.1 hfk.2 h
      have HT := kvs_take L k hlt
      have HT2 := kvs_take_le L (k + 1)
      rw [HT] at HT2
      generalize L[k] = q at *
      obtain ⟨T, hT⟩ : ∃ T, T = kvs (L.take k) := ⟨_, rfl⟩
      obtain ⟨S, hS⟩ : ∃ S, S = ba (kv q) := ⟨_, rfl⟩
      have hSz : S.size = (kv q).length := by rw [hS, ba_size]
      have hS5 : S.size ≤ 2051 := by rw [hSz]; exact kv_len hfk.1
      have hSl : S.data.toList = kv q := by rw [hS]; simp [ba]
      rw [← hT] at HT HT2 HB HN
      simp only [← hS] at cP
      rw [List.length_append, ← hSz] at HT2
      have HT3 : Hid (kvs (L.take (k + 1)) = T ++ S.data.toList) := by rw [hSl]; exact HT
      have HB0 := HB.out
      have hTn : T.length ≤ 4096 := HN.out
      clear HT HN HB hSz hSl hS hT
      obtain ⟨kk, n, s⟩ := q
      simp only [V.val] at *
      by_cases hbig : T.length + S.size ≤ 4096
      · go_wp2_with fail
        refine (cP _ ((hm.kept hw).kept (below_alloc1 _ _))).mono ?_
        rintro e w1 ⟨rfl, hb1⟩
        have HB1 := (Bd.below HB0 (below_alloc1 wr (.cells #[.int .i64 kk, .int .i64 n, .string s] 43))).below hb1
        have hw1 := hw.trans ((below_alloc1 wr (.cells #[.int .i64 kk, .int .i64 n, .string s] 43)).mono hw.size)
        have hw2 := hw1.trans (hb1.mono hw1.size)
        have cL := bdLen_any _ _ _ _ HB1
        go_wp2_with fail
        refine cL.mono ?_
        rintro e w2 ⟨rfl, h2⟩
        rw [h2]
        clear h2
        go_wp2_with fail
        refine (bdWrite_any _ _ _ S _ HB1 (by omega) hw2.size).mono ?_
        rintro e w3 ⟨rfl, hB3, hb3⟩
        go_wp2_with fail
        go_roundw
        case rel =>
          refine ⟨k + 1, by omega, by go_num, ?_, ?_, hw2.trans hb3⟩
          · show (kvs (L.take (k + 1))).length ≤ 4096
            rw [HT3.out, List.length_append]
            simpa using hbig
          · show Bd _ _ (kvs (L.take (k + 1))) _
            rw [HT3.out]
            exact hB3
        case measure => simp [Lib.intOf]; omega
      · go_wp2_with fail
        refine (cP _ ((hm.kept hw).kept (below_alloc1 _ _))).mono ?_
        rintro e w1 ⟨rfl, hb1⟩
        have HB1 := (Bd.below HB0 (below_alloc1 wr (.cells #[.int .i64 kk, .int .i64 n, .string s] 43))).below hb1
        have hw1 := hw.trans ((below_alloc1 wr (.cells #[.int .i64 kk, .int .i64 n, .string s] 43)).mono hw.size)
        have hw2 := hw1.trans (hb1.mono hw1.size)
        have cL := bdLen_any _ _ _ _ HB1
        go_wp2_with fail
        refine cL.mono ?_
        rintro e w2 ⟨rfl, h2⟩
        rw [h2]
        clear h2
        go_wp2_with fail
        refine bodyPost_ret (v := .tuple #[.string ⟨#[]⟩, .bool false]) (by simp [results, Tryd.results24, go_sem]) rfl ⟨?_, hw2⟩
        have hn : ¬ (kvs L).length ≤ 4096 := by omega
        unfold tg
        rw [if_neg hn, decide_eq_false hn]
        rfl
    · obtain rfl : k = L.length := by omega
      have HB0 := HB.out
      rw [List.take_length] at HB0
      have cS := bdString_any _ _ _ _ HB0 hw.size
      go_wp2_with fail
      refine cS.mono ?_
      rintro e w2 ⟨rfl, hb2⟩
      go_wp2_with fail
      refine bodyPost_ret (v := .tuple #[.string (ba (kvs L)), .bool true]) (by simp [results, Tryd.results24, go_sem]) rfl ⟨?_, hw.trans hb2⟩
      have hn : (kvs L).length ≤ 4096 := by
        have := HN.out
        rw [List.take_length] at this
        exact this
      unfold tg
      rw [if_pos hn, decide_eq_true hn]

set_option maxHeartbeats 400000 in
set_option maxRecDepth 100000 in
theorem together_nil (a : Option Addr) (cap : Nat) (w : World) :
    Calls Tryd.prog 24 #[.slice a 0 cap] w fun e w' => e = .returned (tg []) ∧ Below w.heap.size w w' := by
  have cS := bdString_any _ _ _ _ (bd_new w) (by simp)
  go_enter Tryd.func24, Tryd.ntmps24
  go_wp2_with fail
  go_loopw [10] (fun si wr => si = .int .i64 0 ∧ wr = w.alloc (.cells #[.pointer none, .slice none 0 0] 56)) (fun _ _ => 0)
  case atStart => exact ⟨rfl, rfl⟩
  case round =>
    obtain ⟨rfl, rfl⟩ := hrel
    go_wp2_with fail
    refine cS.mono ?_
    rintro e w2 ⟨rfl, hb2⟩
    go_wp2_with fail
    exact bodyPost_ret (v := .tuple #[.string (ba []), .bool true]) (by simp [results, Tryd.results24, go_sem]) rfl ⟨rfl, (below_alloc1 _ _).trans hb2⟩

theorem together_any (L : List V) (a : Option Addr) (cap : Nat) (w : World) (h : SlV w a L) (hf : Fit L) (hm : ML w) (hl : L.length ≤ 1000000) :
    Calls Tryd.prog 24 #[.slice a L.length cap] w fun e w' => e = .returned (tg L) ∧ Below w.heap.size w w' := by
  rcases h with rfl | ⟨b, off, rfl, hb, hr⟩
  · exact together_nil a cap w
  · exact together_some L b off cap w hb hr hf hm hl

/-- Do all fit? -/
def fitsB (L : List V) : Bool := L.all kfit

/-- The key of values, and the error's number. -/
def mkS (L : List V) : List UInt8 := if fitsB L then (if (kvs L).length ≤ 4096 then kvs L else []) else []
def mkE (L : List V) : Int := if fitsB L then (if (kvs L).length ≤ 4096 then 0 else 2) else 11

theorem fitsB_no (L : List V) (k : Nat) (h : k < L.length) (hb : kfit L[k] = false) : fitsB L = false := by
  unfold fitsB
  rw [List.all_eq_false]
  exact ⟨L[k], List.getElem_mem h, by simp [hb]⟩

theorem fitsB_fit {L : List V} (h : fitsB L = true) (ho : ∀ v ∈ L, v.ok) : Fit L := fun v hv => ⟨by unfold fitsB at h; exact List.all_eq_true.1 h v hv, ho v hv⟩

theorem fitsB_take (L : List V) (k : Nat) (h : k < L.length) (ht : fitsB (L.take k) = true) (hb : kfit L[k] = true) : fitsB (L.take (k + 1)) = true := by
  unfold fitsB at *
  rw [List.take_succ_eq_append_getElem h, List.all_append, ht]
  simp [hb]

/-- What Make answers. -/
def mk (L : List V) : Value := .tuple #[.string (ba (mkS L)), .int .i64 (mkE L)]

set_option maxHeartbeats 800000 in
set_option maxRecDepth 100000 in
theorem make_some (L : List V) (b off cap : Nat) (w : World) (hb : b < w.heap.size) (hr : RdV w b off L) (ho : ∀ v ∈ L, v.ok) (hm : ML w) (hl : L.length ≤ 1000000) :
    Calls Tryd.prog 12 #[.slice (some ⟨b, off, none⟩) L.length cap] w fun e w' => e = .returned (mk L) ∧ Below w.heap.size w w' := by
  go_enter Tryd.func12, Tryd.ntmps12
  go_wp2_with fail
  go_loopw [10] (fun si wr => ∃ k : Nat, k ≤ L.length ∧ si = .int .i64 (k : Int) ∧ Hid (fitsB (L.take k) = true) ∧ Below w.heap.size w wr) (fun si _ => L.length - (Lib.intOf si).toNat)
  case atStart => exact ⟨0, Nat.zero_le _, rfl, show fitsB (L.take 0) = true from rfl, Below.refl _ _⟩
  case round =>
    obtain ⟨k, hk, rfl, HF, hw⟩ := hrel
    by_cases hlt : k < L.length
    · obtain ⟨e0, e1, e2⟩ := (hr.kept hw hb) k L[k] (by simp [hlt])
      have c := fun w => kfits_any L[k] w
      have hno := fitsB_no L k hlt
      have hyes := fitsB_take L k hlt HF.out
      clear HF
      generalize L[k] = q at *
      obtain ⟨g, hg⟩ : ∃ g, kfit q = g := ⟨_, rfl⟩
      rw [hg] at c hno hyes
      clear hg
      obtain ⟨kk, n, s⟩ := q
      simp only [V.val] at *
      cases g with
      | false =>
        have HN : Hid (fitsB L = false) := hno rfl
        clear hno hyes
        go_wp2_with fail
        refine (c _).mono ?_
        rintro e w1 ⟨rfl, hb1⟩
        go_wp2_with fail
        refine bodyPost_ret (v := .tuple #[.string ⟨#[]⟩, .int .i64 11]) (by simp [results, Tryd.results12, go_sem]) rfl ⟨?_, ?_⟩
        · simp only [mk, mkS, mkE, HN.out]
          rfl
        · exact below2 hw (below2 (below_alloc1 _ _) hb1)
      | true =>
        have HN : Hid (fitsB (L.take (k + 1)) = true) := hyes rfl
        clear hno hyes
        go_wp2_with fail
        refine (c _).mono ?_
        rintro e w1 ⟨rfl, hb1⟩
        go_wp2_with fail
        go_roundw
        case rel => exact ⟨k + 1, by omega, by go_num, HN, below2 hw (below2 (below_alloc1 _ _) hb1)⟩
        case measure => simp [Lib.intOf]; omega
    · obtain rfl : k = L.length := by omega
      have hfb : fitsB L = true := by
        have := HF.out
        rw [List.take_length] at this
        exact this
      have cT := together_any L (some ⟨b, off, none⟩) cap wr ((show SlV w (some ⟨b, off, none⟩) L from Or.inr ⟨b, off, rfl, hb, hr⟩).kept hw) (fitsB_fit hfb ho) (hm.kept hw) hl
      have HX : Hid (fitsB L = true) := hfb
      clear hfb HF
      unfold tg at cT
      by_cases hn : (kvs L).length ≤ 4096
      · rw [if_pos hn, decide_eq_true hn] at cT
        go_wp2_with fail
        refine cT.mono ?_
        rintro e w1 ⟨rfl, hb1⟩
        go_wp2_with fail
        refine bodyPost_ret (v := .tuple #[.string (ba (kvs L)), .int .i64 0]) (by simp [results, Tryd.results12, go_sem]) rfl ⟨?_, below2 hw hb1⟩
        simp only [mk, mkS, mkE, HX.out, if_pos hn, if_true]
      · rw [if_neg hn, decide_eq_false hn] at cT
        go_wp2_with fail
        refine cT.mono ?_
        rintro e w1 ⟨rfl, hb1⟩
        go_wp2_with fail
        refine bodyPost_ret (v := .tuple #[.string ⟨#[]⟩, .int .i64 2]) (by simp [results, Tryd.results12, go_sem]) rfl ⟨?_, below2 hw hb1⟩
        simp only [mk, mkS, mkE, HX.out, if_neg hn, if_true]
        rfl

set_option maxHeartbeats 400000 in
set_option maxRecDepth 100000 in
theorem make_nil (a : Option Addr) (cap : Nat) (w : World) :
    Calls Tryd.prog 12 #[.slice a 0 cap] w fun e w' => e = .returned (mk []) ∧ Below w.heap.size w w' := by
  have cT := together_nil a cap w
  go_enter Tryd.func12, Tryd.ntmps12
  go_wp2_with fail
  go_loopw [10] (fun si wr => si = .int .i64 0 ∧ wr = w) (fun _ _ => 0)
  case atStart => exact ⟨rfl, rfl⟩
  case round =>
    obtain ⟨rfl, hwr⟩ := hrel
    rw [hwr]
    go_wp2_with fail
    refine cT.mono ?_
    rintro e w2 ⟨rfl, hb2⟩
    unfold tg
    rw [if_pos (by simp [kvs]), decide_eq_true (by simp [kvs])]
    go_wp2_with fail
    exact bodyPost_ret (v := .tuple #[.string (ba (kvs [])), .int .i64 0]) (by simp [results, Tryd.results12, go_sem]) rfl ⟨rfl, hb2⟩

theorem make_any (L : List V) (a : Option Addr) (cap : Nat) (w : World) (h : SlV w a L) (ho : ∀ v ∈ L, v.ok) (hm : ML w) (hl : L.length ≤ 1000000) :
    Calls Tryd.prog 12 #[.slice a L.length cap] w fun e w' => e = .returned (mk L) ∧ Below w.heap.size w w' := by
  rcases h with rfl | ⟨b, off, rfl, hb, hr⟩
  · exact make_nil a cap w
  · exact make_some L b off cap w hb hr ho hm hl

end Go.Proofs.YtijpnlomfodihaaDoor

/- The contract of the document's own Make; KeyMakes' walk. -/
import Derived.Test.YtijpnlomfodihaaDoorKOne
import Derived.Test.YtijpnlomfodihaaDoorKJoins
import Derived.Test.YtijpnlomfodihaaDoorVRef2
namespace Go.Proofs.YtijpnlomfodihaaDoor
open Go.RowKit

set_option maxHeartbeats 1600000 in
set_option maxRecDepth 100000 in
theorem refMake_some (L : List V) (b off cap : Nat) (w : World) (hb : b < w.heap.size) (hr : RdV w b off L) (ho : ∀ v ∈ L, v.ok) (hl : L.length ≤ 1000000) :
    Calls Tryd.prog 13 #[.slice (some ⟨b, off, none⟩) L.length cap] w fun e w' => e = .returned (mk L) ∧ Below w.heap.size w w' := by
  go_enter Tryd.func13, Tryd.ntmps13
  go_wp2_with fail
  go_loopw [4] (fun si wr => ∃ k : Nat, k ≤ L.length ∧ si = .int .i64 (k : Int) ∧ Hid (fitsB (L.take k) = true) ∧ Below w.heap.size w wr) (fun si _ => L.length - (Lib.intOf si).toNat)
  case atStart => exact ⟨0, Nat.zero_le _, rfl, show fitsB (L.take 0) = true from rfl, Below.refl _ _⟩
  case round =>
    obtain ⟨k, hk, rfl, HF, hw⟩ := hrel
    by_cases hlt : k < L.length
    · obtain ⟨e0, e1, e2⟩ := (hr.kept hw hb) k L[k] (by simp [hlt])
      have hr' := fun w1 (hb1 : Below wr.heap.size wr w1) => (hr.kept (below2 hw hb1) hb) k L[k] (by simp [hlt])
      have cG := fun w => refGood_any L[k] w
      have cB := fun w => refBlank_any L[k] w
      have hno : (goodB L[k] = false ∧ blankB L[k] = false) → Hid (fitsB L = false) := fun h => fitsB_no L k hlt (by unfold kfit; rw [h.1, h.2]; rfl)
      have hyes : (goodB L[k] = true ∨ blankB L[k] = true) → Hid (fitsB (L.take (k + 1)) = true) := fun h => fitsB_take L k hlt HF.out (by unfold kfit; rcases h with h | h <;> rw [h] <;> simp)
      clear HF
      generalize L[k] = q at *
      generalize goodB q = g at *
      generalize blankB q = bl at *
      obtain ⟨kk, n, s⟩ := q
      simp only [V.val] at *
      cases g with
      | true =>
        have HN := hyes (Or.inl rfl)
        clear hno hyes cB
        go_wp2_with fail
        refine (cG _).mono ?_
        rintro e w1 ⟨rfl, hb1⟩
        go_wp2_with fail
        go_roundw
        case rel => exact ⟨k + 1, by omega, by go_num, HN, below2 hw hb1⟩
        case measure => simp [Lib.intOf]; omega
      | false =>
        cases bl with
        | true =>
          have HN := hyes (Or.inr rfl)
          clear hno hyes
          go_wp2_with fail
          refine (cG _).mono ?_
          rintro e w1 ⟨rfl, hb1⟩
          obtain ⟨g0, g1, g2⟩ := hr' w1 hb1
          go_wp2_with fail
          refine (cB _).mono ?_
          rintro e w2 ⟨rfl, hb2⟩
          go_wp2_with fail
          go_roundw
          case rel => exact ⟨k + 1, by omega, by go_num, HN, below3 hw hb1 hb2⟩
          case measure => simp [Lib.intOf]; omega
        | false =>
          have HN := hno ⟨rfl, rfl⟩
          clear hno hyes
          go_wp2_with fail
          refine (cG _).mono ?_
          rintro e w1 ⟨rfl, hb1⟩
          obtain ⟨g0, g1, g2⟩ := hr' w1 hb1
          go_wp2_with fail
          refine (cB _).mono ?_
          rintro e w2 ⟨rfl, hb2⟩
          go_wp2_with fail
          refine bodyPost_ret (v := .tuple #[.string ⟨#[]⟩, .int .i64 11]) (by simp [results, Tryd.results13, go_sem]) rfl ⟨?_, below3 hw hb1 hb2⟩
          rw [mk_no HN.out]
    · obtain rfl : k = L.length := by omega
      have hfb : fitsB L = true := by
        have := HF.out
        rw [List.take_length] at this
        exact this
      have HX : Hid (fitsB L = true) := hfb
      have hfit := fitsB_fit hfb ho
      have HFit : Hid (Fit L) := hfit
      have hwr := hr.kept hw hb
      have hbr : b < wr.heap.size := by have := hw.size; omega
      clear hfb HF hfit hr
      go_wp2_with fail
      go_loopw [5, 6] (fun sb si w2 => ∃ k : Nat, k ≤ L.length ∧ si = .int .i64 (k : Int) ∧ Hid ((kvs (L.take k)).length ≤ 4096) ∧ BRow wr w2 sb (kvs (L.take k))) (fun _ si _ => L.length - (Lib.intOf si).toNat)
      case atStart => exact ⟨0, Nat.zero_le _, rfl, show (kvs (L.take 0)).length ≤ 4096 from by simp [kvs], by simpa [kvs] using BRow.nil wr⟩
      case round =>
        obtain ⟨k, hk, rfl, HN, hv⟩ := hrel
        by_cases hlt : k < L.length
        · obtain ⟨e0, e1, e2⟩ := (hwr.kept hv.root hbr) k L[k] (by simp [hlt])
          have hfk := HFit.out L[k] (List.getElem_mem hlt)
          have cO := fun w => one_any L[k] w hfk.1 hfk.2
          have HT := kvs_take L k hlt
          have HT2 := kvs_take_le L (k + 1)
          rw [HT, List.length_append] at HT2
          have hne := kv_ne L[k]
          have hkl := kv_len hfk.1
          generalize L[k] = q at *
          generalize hKV : kv q = KV at *
          obtain ⟨kk, n, s⟩ := q
          simp only [V.val] at *
          have hTn : (kvs (L.take k)).length ≤ 4096 := HN.out
          clear HN
          generalize kvs (L.take k) = T at *
          have HT3 : Hid (kvs (L.take (k + 1)) = T ++ KV) := HT
          clear HT hKV hfk
          go_wp2_with fail
          refine (cO _).mono ?_
          rintro e w3 ⟨v3, rfl, hv3⟩
          obtain ⟨ad, c3, rfl, hc3⟩ := hv3.cells hne
          by_cases hbig : T.length + KV.length ≤ 4096
          · go_wp2_with (at_builtin; refine wpList_append_bytes rfl (.tmp 33) (.tmp 38) rfl _ _ _ T KV rfl (hv.below hv3.root) ad c3 KV.length rfl rfl hc3 (by omega) ?_; intro v8 w8 hv8; obtain ⟨a8, c8, hv8e⟩ := hv8.slice; rw [List.length_append] at hv8e; subst hv8e)
            go_roundw
            case rel =>
              refine ⟨k + 1, by omega, by go_num, ?_, ?_⟩
              · show (kvs (L.take (k + 1))).length ≤ 4096
                rw [HT3.out, List.length_append]
                exact hbig
              · rw [HT3.out]
                exact hv8
            case measure => simp [Lib.intOf]; omega
          · go_wp2_with (at_builtin; refine wpList_append_bytes rfl (.tmp 33) (.tmp 38) rfl _ _ _ T KV rfl (hv.below hv3.root) ad c3 KV.length rfl rfl hc3 (by omega) ?_; intro v8 w8 hv8; obtain ⟨a8, c8, hv8e⟩ := hv8.slice; rw [List.length_append] at hv8e; subst hv8e)
            refine bodyPost_ret (v := .tuple #[.string ⟨#[]⟩, .int .i64 2]) (by simp [results, Tryd.results13, go_sem]) rfl ⟨?_, below2 hw hv8.root⟩
            rw [mk_long HX.out (by omega)]
        · obtain rfl : k = L.length := by omega
          have hv0 := hv
          have hn : (kvs L).length ≤ 4096 := by
            have := HN.out
            rw [List.take_length] at this
            exact this
          rw [List.take_length] at hv0
          have ht := hv0.text
          clear hv
          go_wp2_with fail
          refine bodyPost_ret (v := .tuple #[.string (ba (kvs L)), .int .i64 0]) (by simp [results, Tryd.results13, go_sem]) rfl ⟨?_, below2 hw hv0.root⟩
          rw [mk_yes HX.out hn]

set_option maxHeartbeats 800000 in
set_option maxRecDepth 100000 in
theorem refMake_nil (a : Option Addr) (cap : Nat) (w : World) :
    Calls Tryd.prog 13 #[.slice a 0 cap] w fun e w' => e = .returned (mk []) ∧ Below w.heap.size w w' := by
  have ht := (BRow.nil w).text
  go_enter Tryd.func13, Tryd.ntmps13
  go_wp2_with fail
  refine wp_loop_rounds 1 ?_
  rw [rounds_succ]
  go_wp2_with fail
  refine wp_loop_rounds 1 ?_
  rw [rounds_succ]
  go_wp2_with fail
  exact bodyPost_ret (v := .tuple #[.string (ba []), .int .i64 0]) (by simp [results, Tryd.results13, go_sem]) rfl ⟨rfl, Below.refl _ _⟩

theorem refMake_any (L : List V) (a : Option Addr) (cap : Nat) (w : World) (h : SlV w a L) (ho : ∀ v ∈ L, v.ok) (hl : L.length ≤ 1000000) :
    Calls Tryd.prog 13 #[.slice a L.length cap] w fun e w' => e = .returned (mk L) ∧ Below w.heap.size w w' := by
  rcases h with rfl | ⟨b, off, rfl, hb, hr⟩
  · exact refMake_nil a cap w
  · exact refMake_some L b off cap w hb hr ho hl

set_option maxHeartbeats 1600000 in
set_option maxRecDepth 100000 in
theorem keyMakes_walk (L : List V) (a : Option Addr) (ca : Nat) (w : World) (hm : ML w) (ha : SlV w a L) (hna : a = none → ca = 0) (hla : L.length ≤ 9223372036854775807) (oL : ∀ v ∈ L, v.ok) :
    Calls Tryd.prog 3 #[.slice a L.length ca] w fun e w' => e = .returned (.bool true) ∧ Below w.heap.size w w' := by
  have c1 := klarge_any L a ca w ha hla
  cases hA : bigL L with
  | true =>
    rw [hA] at c1
    go_enter Tryd.func3, Tryd.ntmps3
    go_wp2_with fail
    refine c1.mono ?_
    rintro e w1 ⟨rfl, hb1⟩
    go_wp2_with fail
    refine (kwakes_any _ (hm.kept hb1)).mono ?_
    rintro e w2 ⟨rfl, hb2⟩
    go_wp2_with fail
    go_ret
    exact ⟨rfl, below2 hb1 hb2⟩
  | false =>
    rw [hA] at c1
    have lL := (bigL_small hA).1
    have cF := fun w h => kfew_any L a ca w h hna (by omega)
    have cM := fun a c w h hm => make_any L a c w h oL hm (by omega)
    have cR := fun a c w h => refMake_any L a c w h oL (by omega)
    have cV := fun a a' c c' w h h' => keepValues_any L a a' c c' w h h' (by omega)
    unfold mk at cM cR
    generalize ba (mkS L) = T at *
    generalize mkE L = E at *
    have q1 : (T.toList == T.toList) = true := by simp
    have q2 : (E == E) = true := by simp
    clear oL hA
    go_enter Tryd.func3, Tryd.ntmps3
    go_wp2_with fail
    refine c1.mono ?_
    rintro e w1 ⟨rfl, hb1⟩
    go_wp2_with fail
    refine (cF _ (ha.kept hb1)).mono ?_
    rintro e w3 ⟨v3, rfl, hv3⟩
    have k3 := below2 hb1 hv3.root
    obtain ⟨a3, c3, rfl, s3, _⟩ := owns_slV hv3.own
    go_wp2_with fail
    refine (cM a3 c3 _ s3 (hm.kept k3)).mono ?_
    rintro e w4 ⟨rfl, hb4⟩
    have k4 := below2 k3 hb4
    go_wp2_with fail
    refine (cR a ca _ (ha.kept k4)).mono ?_
    rintro e w5 ⟨rfl, hb5⟩
    have k5 := below2 k4 hb5
    go_wp2_with fail
    refine (cV a3 a c3 ca _ (s3.kept (below2 hb4 hb5)) (ha.kept k5)).mono ?_
    rintro e w6 ⟨rfl, hb6⟩
    have k6 := below2 k5 hb6
    go_wp2_with fail
    refine (kwakes_any _ (hm.kept k6)).mono ?_
    rintro e w7 ⟨rfl, hb7⟩
    go_wp2_with fail
    go_ret
    exact ⟨rfl, below2 k6 hb7⟩

set_option maxRecDepth 100000 in
theorem keyMakes_open (v0 : Value) (W : World) (hm : ML W) {H : Type} {enc : TypeId × Value → H} {base : Nat} {d0 : DataW H} {p0 : List MemPlace}
    (hv0 : Value.okWide Tryd.prog W .any base 22 v0) (h0 : DataW.Trod enc Tryd.prog W 0 (fun _ => true) true 22 v0 d0 p0) :
    Calls Tryd.prog 3 #[v0] W fun e w' => e = .returned (.bool true) ∧ Below W.heap.size W w' := by
  obtain ⟨a, L, ca, rfl, ha, oL, lL, hna⟩ := open_values hv0 h0
  unfold maxLen at lL
  exact keyMakes_walk L a ca W hm ha hna lL (fun v hv => (oL v hv).1)

end Go.Proofs.YtijpnlomfodihaaDoor

/- The contracts of the statements' own helpers: wakes, large, Values, Begins. -/
import Derived.Test.YtijpnlomfodihaaDoorKSplit
import Derived.Test.YtijpnlomfodihaaDoorKAfter
import Derived.Test.YtijpnlomfodihaaDoorVRef
import Derived.Deep.RegionHeld3
namespace Go.Proofs.YtijpnlomfodihaaDoor
open Go.RowKit

theorem kdrew {W w1 : World} (hb : Below W.drew.heap.size W.drew w1) : Below W.heap.size W w1 := ((Below.refl _ W).drew).trans hb

def wV : V := ⟨2, 1, ba []⟩

theorem w_kvs : kvs [wV] = [2, 128, 0, 0, 0, 0, 0, 0, 1] := by decide +kernel
theorem w_fits : fitsB [wV] = true := by decide +kernel
theorem w_mk : mk [wV] = .tuple #[.string (ba [2, 128, 0, 0, 0, 0, 0, 0, 1]), .int .i64 0] := by
  unfold mk mkS mkE
  rw [w_fits, w_kvs]
  rfl
theorem w_ok : ∀ v ∈ [wV], v.ok := by
  intro v hv
  obtain rfl : v = wV := by simpa using hv
  exact ⟨by decide, by decide, by decide, by decide⟩
theorem w_sp : spL [2, 128, 0, 0, 0, 0, 0, 0, 1] = [wV] ∧ spE [2, 128, 0, 0, 0, 0, 0, 0, 1] = 0 :=
  sp_end (by decide) w_kvs.symm (fitsB_fit w_fits w_ok)
theorem w_aft : aft [97, 255] = [98] := by decide +kernel

theorem slV_one (w : World) (v : V) : SlV (w.alloc (.cells #[.int .i64 v.k, .int .i64 v.n, .string v.s] 43)) (some ⟨w.heap.size, 0, none⟩) [v] := by
  refine Or.inr ⟨w.heap.size, 0, rfl, by simp, ?_⟩
  intro i p hp
  have hi : i = 0 := by
    have := (List.getElem?_eq_some_iff.1 hp).1
    simp at this
    exact this
  subst hi
  obtain rfl : v = p := by simpa using hp
  refine ⟨?_, ?_, ?_⟩ <;> simp

set_option maxHeartbeats 800000 in
set_option maxRecDepth 100000 in
theorem kwakes_any (w : World) (hm : ML w) : Calls Tryd.prog 10 #[] w fun e w' => e = .returned (.bool true) ∧ Below w.heap.size w w' := by
  have cM := make_any [wV] (some ⟨w.heap.size, 0, none⟩) 1 _ (slV_one w wV) w_ok (hm.kept (below_alloc1 _ _)) (by decide)
  rw [w_mk] at cM
  have cS := fun w => split_any (ba [2, 128, 0, 0, 0, 0, 0, 0, 1]) w (by decide)
  have e9 : (ba [2, 128, 0, 0, 0, 0, 0, 0, 1]).data.toList = [2, 128, 0, 0, 0, 0, 0, 0, 1] := by simp [ba]
  rw [e9, w_sp.1, w_sp.2] at cS
  have cA := fun w => after_any (ba [97, 255]) w (by decide)
  have e2 : (ba [97, 255]).data.toList = [97, 255] := by simp [ba]
  rw [e2, w_aft] at cA
  clear e9 e2
  simp only [wV, ba, List.length_singleton] at cM cS cA
  go_enter Tryd.func10, Tryd.ntmps10
  go_wp2_with fail
  refine cM.mono ?_
  rintro e w1 ⟨rfl, hb1⟩
  go_wp2_with fail
  refine (cS _).mono ?_
  rintro e w2 ⟨a, cap, rfl, _, _, hb2⟩
  go_wp2_with fail
  refine (cA _).mono ?_
  rintro e w3 ⟨rfl, hb3⟩
  go_wp2_with fail
  go_ret
  exact ⟨rfl, below2 (below_alloc1 _ _) (below3 hb1 hb2 hb3)⟩

/-- Is a list large? -/
def bigL (L : List V) : Bool := decide (100 < L.length) || L.any (fun v => decide (5000 < v.s.size))

theorem bigL_yes (L : List V) (k : Nat) (h : k < L.length) (hb : decide (5000 < L[k].s.size) = true) : bigL L = true := by
  unfold bigL
  have : L.any (fun v => decide (5000 < v.s.size)) = true := List.any_eq_true.2 ⟨L[k], List.getElem_mem h, hb⟩
  rw [this, Bool.or_true]

theorem bigL_no (L : List V) (h : ¬ 100 < L.length) (hb : ∀ k, (hk : k < L.length) → decide (5000 < L[k].s.size) = false) : bigL L = false := by
  unfold bigL
  have : L.any (fun v => decide (5000 < v.s.size)) = false := by
    rw [List.any_eq_false]
    intro v hv
    obtain ⟨i, hi, rfl⟩ := List.getElem_of_mem hv
    simp [hb i hi]
  rw [this, decide_eq_false h]
  rfl

theorem bigL_small {L : List V} (h : bigL L = false) : L.length ≤ 100 ∧ ∀ v ∈ L, v.s.size ≤ 5000 := by
  unfold bigL at h
  rw [Bool.or_eq_false_iff] at h
  refine ⟨by simpa using h.1, fun v hv => ?_⟩
  have := List.any_eq_false.1 h.2 v hv
  simpa using this

set_option maxHeartbeats 800000 in
set_option maxRecDepth 100000 in
theorem klarge_some (L : List V) (b off cap : Nat) (w : World) (hb : b < w.heap.size) (hr : RdV w b off L) (hl : L.length ≤ 9223372036854775807) :
    Calls Tryd.prog 9 #[.slice (some ⟨b, off, none⟩) L.length cap] w fun e w' => e = .returned (.bool (bigL L)) ∧ Below w.heap.size w w' := by
  obtain ⟨G, hG⟩ : ∃ G, bigL L = G := ⟨_, rfl⟩
  have HG : Hid (bigL L = G) := hG
  rw [hG]
  clear hG
  by_cases h : 100 < L.length
  · have : bigL L = true := by unfold bigL; rw [decide_eq_true h, Bool.true_or]
    rw [HG.out] at this
    subst this
    clear HG
    go_enter Tryd.func9, Tryd.ntmps9
    go_wp2_with fail
    go_ret
    exact ⟨rfl, Below.refl _ _⟩
  · go_enter Tryd.func9, Tryd.ntmps9
    go_wp2_with fail
    go_loopw [3] (fun si wr => ∃ k : Nat, k ≤ L.length ∧ si = .int .i64 (k : Int) ∧ Hid (∀ j, j < k → (hj : j < L.length) → decide (5000 < L[j].s.size) = false) ∧ Below w.heap.size w wr) (fun si _ => L.length - (intOf si).toNat)
    case atStart => exact ⟨0, Nat.zero_le _, rfl, show ∀ j, j < 0 → _ from fun j hj => by omega, Below.refl _ _⟩
    case round =>
      obtain ⟨k, hk, rfl, HA, hw⟩ := hrel
      by_cases hlt : k < L.length
      · obtain ⟨e0, e1, e2⟩ := (hr.kept hw hb) k L[k] (by simp [hlt])
        have c := fun w => largeValue_any L[k] w _ rfl
        have hyes := bigL_yes L k hlt
        have hno : decide (5000 < L[k].s.size) = false → Hid (∀ j, j < k + 1 → (hj : j < L.length) → decide (5000 < L[j].s.size) = false) := fun hq => by
          show ∀ j, j < k + 1 → (hj : j < L.length) → decide (5000 < L[j].s.size) = false
          intro j hj hj2
          by_cases e : j = k
          · subst e; exact hq
          · exact HA.out j (by omega) hj2
        clear HA
        generalize L[k] = q at *
        obtain ⟨kk, n, s⟩ := q
        simp only [V.val] at *
        generalize decide (5000 < s.size) = g at *
        cases g with
        | true =>
          have := hyes rfl
          rw [HG.out] at this
          subst this
          clear HG hyes hno
          go_wp2_with fail
          refine (c _).mono ?_
          rintro e w1 ⟨rfl, hb1⟩
          go_wp2_with fail
          go_ret
          exact ⟨rfl, below2 hw hb1⟩
        | false =>
          have HN := hno rfl
          clear hyes hno
          go_wp2_with fail
          refine (c _).mono ?_
          rintro e w1 ⟨rfl, hb1⟩
          go_wp2_with fail
          go_roundw
          case rel => exact ⟨k + 1, by omega, by go_num, HN, below2 hw hb1⟩
          case measure => simp [intOf]; omega
      · obtain rfl : k = L.length := by omega
        have : bigL L = false := bigL_no L h (fun j hj => HA.out j hj hj)
        rw [HG.out] at this
        subst this
        clear HG HA
        go_wp2_with fail
        go_ret
        exact ⟨rfl, hw⟩

set_option maxHeartbeats 400000 in
set_option maxRecDepth 100000 in
theorem klarge_nil (a : Option Addr) (cap : Nat) (w : World) :
    Calls Tryd.prog 9 #[.slice a 0 cap] w fun e w' => e = .returned (.bool (bigL [])) ∧ Below w.heap.size w w' := by
  go_enter Tryd.func9, Tryd.ntmps9
  go_wp2_with fail
  refine wp_loop_rounds 1 ?_
  rw [rounds_succ]
  go_wp2_with fail
  go_ret
  exact ⟨rfl, Below.refl _ _⟩

theorem klarge_any (L : List V) (a : Option Addr) (cap : Nat) (w : World) (h : SlV w a L) (hl : L.length ≤ 9223372036854775807) :
    Calls Tryd.prog 9 #[.slice a L.length cap] w fun e w' => e = .returned (.bool (bigL L)) ∧ Below w.heap.size w w' := by
  rcases h with rfl | ⟨b, off, rfl, hb, hr⟩
  · exact klarge_nil a cap w
  · exact klarge_some L b off cap w hb hr hl

set_option maxHeartbeats 800000 in
set_option maxRecDepth 100000 in
theorem keepValues_some (L : List V) (b off cap b' off' cap' : Nat) (w : World) (hb : b < w.heap.size) (hr : RdV w b off L) (hb' : b' < w.heap.size) (hr' : RdV w b' off' L) (hlen : L.length ≤ 1000000) :
    Calls Tryd.prog 14 #[.slice (some ⟨b, off, none⟩) L.length cap, .slice (some ⟨b', off', none⟩) L.length cap'] w fun e w' => e = .returned (.bool true) ∧ Below w.heap.size w w' := by
  go_enter Tryd.func14, Tryd.ntmps14
  go_wp2_with fail
  go_loopw [5] (fun si wr => ∃ k : Nat, k ≤ L.length ∧ si = .int .i64 (k : Int) ∧ Below w.heap.size w wr) (fun si _ => L.length - (intOf si).toNat)
  case atStart => exact ⟨0, Nat.zero_le _, rfl, Below.refl _ _⟩
  case round =>
    obtain ⟨k, hk, rfl, hbl⟩ := hrel
    by_cases hlt : k < L.length
    · obtain ⟨e0, e1, e2⟩ := (hr.kept hbl hb) k L[k] (by simp [hlt])
      obtain ⟨g0, g1, g2⟩ := (hr'.kept hbl hb') k L[k] (by simp [hlt])
      have cV := fun w => keepValue_any L[k] L[k] w
      rw [eqV_refl] at cV
      generalize L[k] = q at *
      obtain ⟨kk, n, s⟩ := q
      simp only [V.val] at *
      have i0 : (0 : Int) ≤ (k : Int) := by omega
      have i1 : (k : Int) < (L.length : Int) := by omega
      have y0 : b < wr.heap.size := by have := hbl.size; omega
      have y1 : b' < wr.heap.size := by have := hbl.size; omega
      go_wp2_with fail
      go_region_held3 (fun W => W.cell? ⟨b, off + k * 3, none⟩ = some (.int .i64 kk) ∧ W.cell? ⟨b, off + k * 3 + 1, none⟩ = some (.int .i64 n) ∧ W.cell? ⟨b, off + k * 3 + 2, none⟩ = some (.string s) ∧ W.cell? ⟨b', off' + k * 3, none⟩ = some (.int .i64 kk) ∧ W.cell? ⟨b', off' + k * 3 + 1, none⟩ = some (.int .i64 n) ∧ W.cell? ⟨b', off' + k * 3 + 2, none⟩ = some (.string s))
        (first | exact ⟨(hB.cell (p := ⟨b, _, none⟩) y0).trans e0, (hB.cell (p := ⟨b, _, none⟩) y0).trans e1, (hB.cell (p := ⟨b, _, none⟩) y0).trans e2, (hB.cell (p := ⟨b', _, none⟩) y1).trans g0, (hB.cell (p := ⟨b', _, none⟩) y1).trans g1, (hB.cell (p := ⟨b', _, none⟩) y1).trans g2⟩ | exact ⟨e0, e1, e2, g0, g1, g2⟩ | go_keep)
        ((go_at_call 28; refine (cV _).mono ?_; rintro e wA ⟨rfl, hbA⟩; have hB := kdrew hbA))
      all_goals go_wp2_with fail
      all_goals go_roundw
      case rel => exact ⟨k + 1, by omega, by go_num, below2 hbl hB⟩
      case measure => simp [intOf]; omega
    · go_wp2_with fail
      go_ret
      exact ⟨rfl, hbl⟩

set_option maxHeartbeats 400000 in
set_option maxRecDepth 100000 in
theorem keepValues_none (a a' : Option Addr) (cap cap' : Nat) (w : World) : Calls Tryd.prog 14 #[.slice a 0 cap, .slice a' 0 cap'] w fun e w' => e = .returned (.bool true) ∧ Below w.heap.size w w' := by
  go_enter Tryd.func14, Tryd.ntmps14
  go_wp2_with fail
  refine wp_loop_rounds 1 ?_
  rw [rounds_succ]
  go_wp2_with fail
  go_ret
  exact ⟨rfl, Below.refl _ _⟩

/-- Lists that are alike are told to be. -/
theorem keepValues_any (L : List V) (a a' : Option Addr) (cap cap' : Nat) (w : World) (h : SlV w a L) (h' : SlV w a' L) (hlen : L.length ≤ 1000000) :
    Calls Tryd.prog 14 #[.slice a L.length cap, .slice a' L.length cap'] w fun e w' => e = .returned (.bool true) ∧ Below w.heap.size w w' := by
  rcases h with rfl | ⟨b, off, rfl, hb, hr⟩
  · exact keepValues_none a a' cap cap' w
  · rcases h' with rfl | ⟨b', off', rfl, hb', hr'⟩
    · exact keepValues_none _ _ cap cap' w
    · exact keepValues_some L b off cap b' off' cap' w hb hr hb' hr' hlen

set_option maxHeartbeats 400000 in
theorem begins_any (s t : ByteArray) (w : World) : Calls Tryd.prog 21 #[.string s, .string t] w fun e w' => e = .returned (.bool (t.data.toList.isPrefixOf s.data.toList)) ∧ w' = w := by
  obtain ⟨G, hG⟩ : ∃ G, t.data.toList.isPrefixOf s.data.toList = G := ⟨_, rfl⟩
  rw [hG]
  by_cases h : t.size ≤ s.size
  · have he : ((s.extract 0 t.size).toList == t.toList) = G := by
      rw [← hG, take_ba, ba_list, ByteArray.toList_eq, Bool.eq_iff_iff, beq_iff_eq, List.isPrefixOf_iff_prefix, List.prefix_iff_eq_take]
      have : t.data.toList.length = t.size := by simp
      rw [this]
      exact ⟨fun h => h.symm, fun h => h.symm⟩
    clear hG
    go_enter Tryd.func21, Tryd.ntmps21
    go_wp2_with fail
    go_ret
    exact ⟨rfl, rfl⟩
  · have : G = false := by
      rw [← hG, Bool.eq_false_iff, Ne, List.isPrefixOf_iff_prefix]
      intro hp
      have := hp.length_le
      simp at this
      omega
    subst this
    clear hG
    go_enter Tryd.func21, Tryd.ntmps21
    go_wp2_with fail
    go_ret
    exact ⟨rfl, rfl⟩

end Go.Proofs.YtijpnlomfodihaaDoor

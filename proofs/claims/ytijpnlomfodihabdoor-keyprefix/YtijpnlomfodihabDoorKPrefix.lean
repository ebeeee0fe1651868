/- KeyPrefix: the walk. -/
import Derived.Test.YtijpnlomfodihabDoorKLaw
import Derived.Laws.Cover1
namespace Go.Proofs.YtijpnlomfodihabDoor
open Go.RowKit

theorem pmk_yes {L : List V} (h : fitsB L = true) (h2 : (kvs L).length ≤ 4096) : mk L = .tuple #[.string (ba (kvs L)), .int .i64 0] := by
  simp only [mk, mkS, mkE, h, h2, if_true]

theorem pmk_cases (L : List V) : (fitsB L = true ∧ (kvs L).length ≤ 4096) ∨ ∃ E, mk L = .tuple #[.string ⟨#[]⟩, .int .i64 E] ∧ (E != 0) = true := by
  cases h : fitsB L with
  | true =>
    by_cases h2 : (kvs L).length ≤ 4096
    · exact Or.inl ⟨rfl, h2⟩
    · exact Or.inr ⟨2, by simp only [mk, mkS, mkE, h, h2, if_true, if_false]; rfl, by decide⟩
  | false => exact Or.inr ⟨11, by simp only [mk, mkS, mkE, h]; rfl, by decide⟩

theorem fitsB_pre {L : List V} (k : Nat) (h : fitsB L = true) : fitsB (L.take k) = true := by
  unfold fitsB at *
  rw [List.all_eq_true] at *
  exact fun v hv => h v (List.mem_of_mem_take hv)

theorem SlV.take {w : World} {a : Option Addr} {L : List V} (k : Nat) (h : SlV w a L) : SlV w a (L.take k) := by
  rcases h with rfl | ⟨b, off, e, hb, hr⟩
  · exact Or.inl (by simp)
  · refine Or.inr ⟨b, off, e, hb, ?_⟩
    intro i p hp
    refine hr i p ?_
    rw [List.getElem?_take] at hp
    split at hp
    · exact hp
    · cases hp

theorem tmod_mod (k : Int) (n : Nat) (hn : 1 ≤ n) : ∃ r : Nat, r < n ∧ (k.tmod n + n).tmod n = (r : Int) ∧ -(n : Int) < k.tmod n ∧ k.tmod n < n := by
  have h1 : k.tmod n < n := Int.tmod_lt_of_pos _ (by omega)
  have h2 : -(n : Int) < k.tmod n := by
    have := Int.lt_tmod_of_pos k (b := (n : Int)) (by omega)
    exact this
  refine ⟨((k.tmod n + n).tmod n).toNat, ?_, ?_, h2, h1⟩
  · have h3 : (k.tmod n + n).tmod n < n := Int.tmod_lt_of_pos _ (by omega)
    have h4 : 0 ≤ (k.tmod n + n).tmod n := Int.tmod_nonneg _ (by omega)
    omega
  · have h4 : 0 ≤ (k.tmod n + n).tmod n := Int.tmod_nonneg _ (by omega)
    omega

set_option maxHeartbeats 400000 in
theorem mod_any (k : Int) (n : Nat) (w : World) (_h0 : -9223372036854775808 ≤ k) (_h1 : k ≤ 9223372036854775807) (hn : 1 ≤ n) (hn2 : n ≤ 1000) :
    Calls Tryd.prog 8 #[.int .i64 k, .int .i64 (n : Int)] w fun e w' => ∃ r : Nat, e = .returned (.int .i64 (r : Int)) ∧ r < n ∧ w' = w := by
  obtain ⟨r, hr, he, b1, b2⟩ := tmod_mod k n hn
  have hz : ((n : Int) == 0) = false := by rw [beq_eq_false_iff_ne]; omega
  have hm1 : ((n : Int) == -1) = false := by rw [beq_eq_false_iff_ne]; omega
  have hlt : decide ((n : Int) < 1) = false := by simp; omega
  generalize hq : k.tmod (n : Int) = q at *
  go_enter Tryd.func8, Tryd.ntmps8
  go_wp2_with fail
  go_ret
  exact ⟨r, rfl, hr, rfl⟩

section
variable {H : Type} {enc : TypeId × Value → H} {W : World} {base : Nat}
open Go.ChangeShapes Go.WideShapes Go.ChangeAt Go.Deep

theorem len_cap {a : Option Addr} {n cap : Nat} {d : DataW H} {ps : List MemPlace} (h : DataW.Trod enc Tryd.prog W 0 (fun _ => true) true 22 (.slice a n cap) d ps) : n ≤ cap := by
  obtain ⟨fuel, hf⟩ := h
  rcases open_slice Tryd.underlying22 hf with ⟨hcs, _⟩ | ⟨a', l, c, m, k, D, Pl, hcs, _, hl, hm, hmm, _, hx⟩
  · simp [Value.cells] at hcs
    omega
  · simp [Value.cells] at hcs
    omega
end

set_option maxHeartbeats 1600000 in
set_option maxRecDepth 100000 in
theorem keyPrefix_big (L : List V) (a : Option Addr) (ca : Nat) (n : Int) (w : World) (hm : ML w) (ha : SlV w a L) (hla : L.length ≤ 9223372036854775807) (hL : bigL L = true) :
    Calls Tryd.prog 3 #[.slice a L.length ca, .int .i64 n] w fun e w' => e = .returned (.bool true) ∧ Below w.heap.size w w' := by
  have c1 := klarge_any L a ca w ha hla
  rw [hL] at c1
  go_enter Tryd.func3, Tryd.ntmps3
  go_wp2_with fail
  refine c1.mono ?_
  rintro e w1 ⟨rfl, hb1⟩
  go_wp2_with fail
  refine (kwakes_any _ (hm.kept hb1)).mono ?_
  rintro e w2 ⟨rfl, hb2⟩
  go_wp2_with fail
  go_ret
  exact ⟨rfl, below2 hb1 hb2⟩

set_option maxHeartbeats 1600000 in
set_option maxRecDepth 100000 in
theorem keyPrefix_bad (L : List V) (a : Option Addr) (ca : Nat) (n : Int) (w : World) (hm : ML w) (ha : SlV w a L) (hna : a = none → ca = 0) (hla : L.length ≤ 100) (hL : bigL L = false) (oL : ∀ v ∈ L, v.ok) (E : Int)
    (mL : mk L = .tuple #[.string ⟨#[]⟩, .int .i64 E]) (f1 : (E != 0) = true) :
    Calls Tryd.prog 3 #[.slice a L.length ca, .int .i64 n] w fun e w' => e = .returned (.bool true) ∧ Below w.heap.size w w' := by
  have c1 := klarge_any L a ca w ha (by omega)
  rw [hL] at c1
  have cF := fun w h => kfew_any L a ca w h hna (by omega)
  have cM := fun a c w h hm => make_any L a c w h oL hm (by omega)
  rw [mL] at cM
  clear mL oL hL
  go_enter Tryd.func3, Tryd.ntmps3
  go_wp2_with fail
  refine c1.mono ?_
  rintro e w1 ⟨rfl, hb1⟩
  go_wp2_with fail
  refine (cF _ (ha.kept hb1)).mono ?_
  rintro e w3 ⟨v3, rfl, hv3⟩
  have k3 := below2 hb1 hv3.root
  obtain ⟨a3, c3, rfl, s3, _⟩ := owns_slV hv3.own
  go_wp2_with fail
  refine (cM a3 c3 _ s3 (hm.kept k3)).mono ?_
  rintro e w4 ⟨rfl, hb4⟩
  have k4 := below2 k3 hb4
  go_wp2_with fail
  refine (kwakes_any _ (hm.kept k4)).mono ?_
  rintro e w9 ⟨rfl, hb9⟩
  go_wp2_with fail
  go_ret
  exact ⟨rfl, below2 k4 hb9⟩

theorem pre_in (L : List V) (k : Nat) : (Op.bytesLess (ba (kvs L)).toList (ba (kvs (L.take k))).toList = false) ∧ (((ba (aft (kvs (L.take k)))).toList == []) = true ∨ (((ba (aft (kvs (L.take k)))).toList == []) = false ∧ Op.bytesLess (ba (kvs L)).toList (ba (aft (kvs (L.take k)))).toList = true)) := by
  have hp : (kvs (L.take k)).isPrefixOf (kvs L) = true := by
    rw [List.isPrefixOf_iff_prefix]
    exact ⟨kvs (L.drop k), by rw [← kvs_append, List.take_append_drop]⟩
  have h := aft_in (kvs (L.take k)) (kvs L)
  rw [hp, Bool.and_eq_true, Bool.or_eq_true] at h
  rw [ba_list, ba_list, ba_list]
  refine ⟨by simpa using h.1, ?_⟩
  by_cases e : aft (kvs (L.take k)) = []
  · exact Or.inl (by rw [e]; rfl)
  · right
    refine ⟨by simpa using e, ?_⟩
    rcases h.2 with h2 | h2
    · exact absurd (of_decide_eq_true h2) e
    · exact h2

set_option maxHeartbeats 1600000 in
set_option maxRecDepth 100000 in
theorem keyPrefix_good (L : List V) (a : Option Addr) (ca : Nat) (n : Int) (w : World) (hm : ML w) (ha : SlV w a L) (hna : a = none → ca = 0) (hca : L.length ≤ ca) (hla : L.length ≤ 100) (hL : bigL L = false) (oL : ∀ v ∈ L, v.ok) (n0 : -9223372036854775808 ≤ n) (n1 : n ≤ 9223372036854775807)
    (fL : fitsB L = true) (nL : (kvs L).length ≤ 4096) :
    Calls Tryd.prog 3 #[.slice a L.length ca, .int .i64 n] w fun e w' => e = .returned (.bool true) ∧ Below w.heap.size w w' := by
  have c1 := klarge_any L a ca w ha (by omega)
  rw [hL] at c1
  have cF := fun w h => kfew_any L a ca w h hna (by omega)
  have cM := fun a c w h hm => make_any L a c w h oL hm (by omega)
  rw [pmk_yes fL nL] at cM
  have cD := fun w => mod_any n (L.length + 1) w n0 n1 (by omega) (by omega)
  rw [show ((L.length + 1 : Nat) : Int) = (L.length : Int) + 1 by omega] at cD
  have cF2 := fun k w (hk : k ≤ L.length) h => kfew_any (L.take k) a ca w h hna (by rw [List.length_take]; omega)
  have cM2 := fun k a c w (hk : k ≤ L.length) h hm => make_any (L.take k) a c w h (fun v hv => oL v (List.mem_of_mem_take hv)) hm (by rw [List.length_take]; omega)
  have hmk2 := fun k => pmk_yes (fitsB_pre k fL) (Nat.le_trans (kvs_take_le L k) nL)
  have hlen : ∀ k, k ≤ L.length → (L.take k).length = k := fun k hk => by rw [List.length_take]; omega
  have hpin := fun k => pre_in L k
  have hpre : ∀ k, (ba (kvs (L.take k))).data.toList.isPrefixOf (ba (kvs L)).data.toList = true := fun k => by
    rw [List.isPrefixOf_iff_prefix]
    refine ⟨kvs (L.drop k), ?_⟩
    simp only [ba]
    rw [← kvs_append, List.take_append_drop]
  clear oL hL fL
  go_enter Tryd.func3, Tryd.ntmps3
  go_wp2_with fail
  refine c1.mono ?_
  rintro e w1 ⟨rfl, hb1⟩
  go_wp2_with fail
  refine (cF _ (ha.kept hb1)).mono ?_
  rintro e w3 ⟨v3, rfl, hv3⟩
  have k3 := below2 hb1 hv3.root
  obtain ⟨a3, c3, rfl, s3, _⟩ := owns_slV hv3.own
  go_wp2_with fail
  refine (cM a3 c3 _ s3 (hm.kept k3)).mono ?_
  rintro e w4 ⟨rfl, hb4⟩
  have k4 := below2 k3 hb4
  go_wp2_with fail
  refine (cD _).mono ?_
  rintro e w5 ⟨k, rfl, hk, h5⟩
  rw [h5]
  clear h5
  have hkL : k ≤ L.length := by omega
  have cF3 := cF2 k w4 hkL ((ha.kept k4).take k)
  rw [hlen k hkL] at cF3
  have cM3 := fun a c w => cM2 k a c w hkL
  rw [hmk2 k, hlen k hkL] at cM3
  obtain ⟨p1, p2⟩ := hpin k
  have cB := fun w => begins_any (ba (kvs L)) (ba (kvs (L.take k))) w
  rw [hpre k] at cB
  have cA := fun w => after_any (ba (kvs (L.take k))) w (by rw [ba_size]; have := kvs_take_le L k; omega)
  rw [show (ba (kvs (L.take k))).data.toList = kvs (L.take k) by simp [ba]] at cA
  clear cF2 cM2 hmk2 hpin hpre cF cM cD
  generalize ba (aft (kvs (L.take k))) = A at *
  generalize hTK : ba (kvs (L.take k)) = T at *
  generalize ba (kvs L) = S at *
  have i1 : (0 : Int) ≤ (k : Int) := by omega
  have i2 : (k : Int) ≤ (ca : Int) := by omega
  go_wp2_with fail
  refine cF3.mono ?_
  rintro e w6 ⟨v6, rfl, hv6⟩
  have k6 := below2 k4 hv6.root
  obtain ⟨a6, c6, hve, s6, _⟩ := owns_slV hv6.own
  rw [hlen k hkL] at hve
  subst hve
  go_wp2_with fail
  refine (cM3 a6 c6 _ s6 (hm.kept k6)).mono ?_
  rintro e w7 ⟨rfl, hb7⟩
  have k7 := below2 k6 hb7
  go_wp2_with fail
  refine (cA _).mono ?_
  rintro e w8 ⟨rfl, hb8⟩
  have k8 := below2 k7 hb8
  clear hTK
  rcases p2 with p2 | ⟨p2, p3⟩
  · go_wp2_with fail
    refine (cB _).mono ?_
    rintro e w9 ⟨rfl, h9⟩
    rw [h9]
    clear h9
    go_wp2_with fail
    refine (kwakes_any _ (hm.kept k8)).mono ?_
    rintro e w10 ⟨rfl, hb10⟩
    go_wp2_with fail
    go_ret
    exact ⟨rfl, below2 k8 hb10⟩
  · go_wp2_with fail
    refine (cB _).mono ?_
    rintro e w9 ⟨rfl, h9⟩
    rw [h9]
    clear h9
    go_wp2_with fail
    refine (kwakes_any _ (hm.kept k8)).mono ?_
    rintro e w10 ⟨rfl, hb10⟩
    go_wp2_with fail
    go_ret
    exact ⟨rfl, below2 k8 hb10⟩

set_option maxRecDepth 100000 in
theorem keyPrefix_open (v0 : Value) (n : Int) (W : World) (hm : ML W) {H : Type} {enc : TypeId × Value → H} {base : Nat} {d0 : DataW H} {p0 : List MemPlace}
    (hv0 : Value.okWide Tryd.prog W .any base 22 v0) (h0 : DataW.Trod enc Tryd.prog W 0 (fun _ => true) true 22 v0 d0 p0) (hn : -9223372036854775808 ≤ n ∧ n ≤ 9223372036854775807) :
    Calls Tryd.prog 3 #[v0, .int .i64 n] W fun e w' => e = .returned (.bool true) ∧ Below W.heap.size W w' := by
  obtain ⟨a, L, ca, rfl, ha, oL, lL, hna⟩ := open_values hv0 h0
  have hca := len_cap h0
  unfold maxLen at lL
  cases hL : bigL L with
  | true => exact keyPrefix_big L a ca n W hm ha lL hL
  | false =>
    have l1 := (bigL_small hL).1
    rcases pmk_cases L with ⟨f1, f2⟩ | ⟨E, f1, f2⟩
    · exact keyPrefix_good L a ca n W hm ha hna hca l1 hL (fun v hv => (oL v hv).1) hn.1 hn.2 f1 f2
    · exact keyPrefix_bad L a ca n W hm ha hna l1 hL (fun v hv => (oL v hv).1) E f1 f2

end Go.Proofs.YtijpnlomfodihabDoor

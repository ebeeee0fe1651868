/- KeyOrder: the walk. -/
import Derived.Test.YtijpnlomfodihaaDoorKComp
namespace Go.Proofs.YtijpnlomfodihaaDoor
open Go.RowKit

set_option maxHeartbeats 1600000 in
set_option maxRecDepth 100000 in
theorem keyOrder_bad1 (A B : List V) (a b : Option Addr) (ca cb : Nat) (w : World) (hm : ML w) (ha : SlV w a A) (hb : SlV w b B) (hna : a = none → ca = 0) (hnb : b = none → cb = 0) (hla : A.length ≤ 100) (hlb : B.length ≤ 100)
    (hA : bigL A = false) (hB : bigL B = false) (oA : ∀ v ∈ A, v.ok) (oB : ∀ v ∈ B, v.ok) (TA TB : ByteArray) (EA EB : Int)
    (mA : mk A = .tuple #[.string TA, .int .i64 EA]) (mB : mk B = .tuple #[.string TB, .int .i64 EB]) (f1 : (EA != 0) = true) :
    Calls Tryd.prog 5 #[.slice a A.length ca, .slice b B.length cb] w fun e w' => e = .returned (.bool true) ∧ Below w.heap.size w w' := by
  have c1 := klarge_any A a ca w ha (by omega)
  have c2 := fun w h => klarge_any B b cb w h (by omega)
  rw [hA] at c1
  rw [hB] at c2
  have cFA := fun w h => kfew_any A a ca w h hna (by omega)
  have cFB := fun w h => kfew_any B b cb w h hnb (by omega)
  have cMA := fun a c w h hm => make_any A a c w h oA hm (by omega)
  have cMB := fun a c w h hm => make_any B a c w h oB hm (by omega)
  rw [mA] at cMA
  rw [mB] at cMB
  clear mA mB oA oB hA hB
  go_enter Tryd.func5, Tryd.ntmps5
  go_wp2_with fail
  refine c1.mono ?_
  rintro e w1 ⟨rfl, hb1⟩
  go_wp2_with fail
  refine (c2 _ (hb.kept hb1)).mono ?_
  rintro e w2 ⟨rfl, hb2⟩
  have k2 := below2 hb1 hb2
  go_wp2_with fail
  refine (cFA _ (ha.kept k2)).mono ?_
  rintro e w3 ⟨v3, rfl, hv3⟩
  have k3 := below2 k2 hv3.root
  obtain ⟨a3, c3, rfl, s3, _⟩ := owns_slV hv3.own
  go_wp2_with fail
  refine (cMA a3 c3 _ s3 (hm.kept k3)).mono ?_
  rintro e w4 ⟨rfl, hb4⟩
  have k4 := below2 k3 hb4
  go_wp2_with fail
  refine (cFB _ (hb.kept k4)).mono ?_
  rintro e w5 ⟨v5, rfl, hv5⟩
  have k5 := below2 k4 hv5.root
  obtain ⟨a5, c5, rfl, s5, _⟩ := owns_slV hv5.own
  go_wp2_with fail
  refine (cMB a5 c5 _ s5 (hm.kept k5)).mono ?_
  rintro e w6 ⟨rfl, hb6⟩
  have k6 := below2 k5 hb6
  go_wp2_with fail
  refine (kwakes_any _ (hm.kept k6)).mono ?_
  rintro e w9 ⟨rfl, hb9⟩
  go_wp2_with fail
  go_ret
  exact ⟨rfl, below2 k6 hb9⟩

set_option maxHeartbeats 1600000 in
set_option maxRecDepth 100000 in
theorem keyOrder_bad2 (A B : List V) (a b : Option Addr) (ca cb : Nat) (w : World) (hm : ML w) (ha : SlV w a A) (hb : SlV w b B) (hna : a = none → ca = 0) (hnb : b = none → cb = 0) (hla : A.length ≤ 100) (hlb : B.length ≤ 100)
    (hA : bigL A = false) (hB : bigL B = false) (oA : ∀ v ∈ A, v.ok) (oB : ∀ v ∈ B, v.ok) (TA TB : ByteArray) (EA EB : Int)
    (mA : mk A = .tuple #[.string TA, .int .i64 EA]) (mB : mk B = .tuple #[.string TB, .int .i64 EB]) (f1 : EA = 0) (f2 : (EB != 0) = true) :
    Calls Tryd.prog 5 #[.slice a A.length ca, .slice b B.length cb] w fun e w' => e = .returned (.bool true) ∧ Below w.heap.size w w' := by
  have c1 := klarge_any A a ca w ha (by omega)
  have c2 := fun w h => klarge_any B b cb w h (by omega)
  rw [hA] at c1
  rw [hB] at c2
  have cFA := fun w h => kfew_any A a ca w h hna (by omega)
  have cFB := fun w h => kfew_any B b cb w h hnb (by omega)
  have cMA := fun a c w h hm => make_any A a c w h oA hm (by omega)
  have cMB := fun a c w h hm => make_any B a c w h oB hm (by omega)
  rw [mA] at cMA
  rw [mB] at cMB
  subst f1
  clear mA mB oA oB hA hB
  go_enter Tryd.func5, Tryd.ntmps5
  go_wp2_with fail
  refine c1.mono ?_
  rintro e w1 ⟨rfl, hb1⟩
  go_wp2_with fail
  refine (c2 _ (hb.kept hb1)).mono ?_
  rintro e w2 ⟨rfl, hb2⟩
  have k2 := below2 hb1 hb2
  go_wp2_with fail
  refine (cFA _ (ha.kept k2)).mono ?_
  rintro e w3 ⟨v3, rfl, hv3⟩
  have k3 := below2 k2 hv3.root
  obtain ⟨a3, c3, rfl, s3, _⟩ := owns_slV hv3.own
  go_wp2_with fail
  refine (cMA a3 c3 _ s3 (hm.kept k3)).mono ?_
  rintro e w4 ⟨rfl, hb4⟩
  have k4 := below2 k3 hb4
  go_wp2_with fail
  refine (cFB _ (hb.kept k4)).mono ?_
  rintro e w5 ⟨v5, rfl, hv5⟩
  have k5 := below2 k4 hv5.root
  obtain ⟨a5, c5, rfl, s5, _⟩ := owns_slV hv5.own
  go_wp2_with fail
  refine (cMB a5 c5 _ s5 (hm.kept k5)).mono ?_
  rintro e w6 ⟨rfl, hb6⟩
  have k6 := below2 k5 hb6
  go_wp2_with fail
  refine (kwakes_any _ (hm.kept k6)).mono ?_
  rintro e w9 ⟨rfl, hb9⟩
  go_wp2_with fail
  go_ret
  exact ⟨rfl, below2 k6 hb9⟩

set_option maxHeartbeats 1600000 in
set_option maxRecDepth 100000 in
theorem keyOrder_good (A B : List V) (a b : Option Addr) (ca cb : Nat) (w : World) (hm : ML w) (ha : SlV w a A) (hb : SlV w b B) (hna : a = none → ca = 0) (hnb : b = none → cb = 0) (hla : A.length ≤ 100) (hlb : B.length ≤ 100)
    (hA : bigL A = false) (hB : bigL B = false) (oA : ∀ v ∈ A, v.ok) (oB : ∀ v ∈ B, v.ok) (TA TB : ByteArray) (EA EB : Int)
    (mA : mk A = .tuple #[.string TA, .int .i64 EA]) (mB : mk B = .tuple #[.string TB, .int .i64 EB]) (f1 : EA = 0) (f2 : EB = 0) (c : Int) (f3 : cmpL A B = c) (b1 b2 : Bool) (p1 : Op.bytesLess TA.toList TB.toList = b1) (p2 : decide (c < 0) = b1) (p3 : (TA.toList == TB.toList) = b2) (p4 : (c == 0) = b2) :
    Calls Tryd.prog 5 #[.slice a A.length ca, .slice b B.length cb] w fun e w' => e = .returned (.bool true) ∧ Below w.heap.size w w' := by
  have c1 := klarge_any A a ca w ha (by omega)
  have c2 := fun w h => klarge_any B b cb w h (by omega)
  rw [hA] at c1
  rw [hB] at c2
  have cFA := fun w h => kfew_any A a ca w h hna (by omega)
  have cFB := fun w h => kfew_any B b cb w h hnb (by omega)
  have cMA := fun a c w h hm => make_any A a c w h oA hm (by omega)
  have cMB := fun a c w h hm => make_any B a c w h oB hm (by omega)
  rw [mA] at cMA
  rw [mB] at cMB
  subst f1 f2
  have cC := fun w h h' => refCmp_any A B a b ca cb w h h' (by omega) (by omega)
  rw [f3] at cC
  have q1 : (b1 == b1) = true := by simp
  have q2 : (b2 == b2) = true := by simp
  clear mA mB oA oB hA hB
  go_enter Tryd.func5, Tryd.ntmps5
  go_wp2_with fail
  refine c1.mono ?_
  rintro e w1 ⟨rfl, hb1⟩
  go_wp2_with fail
  refine (c2 _ (hb.kept hb1)).mono ?_
  rintro e w2 ⟨rfl, hb2⟩
  have k2 := below2 hb1 hb2
  go_wp2_with fail
  refine (cFA _ (ha.kept k2)).mono ?_
  rintro e w3 ⟨v3, rfl, hv3⟩
  have k3 := below2 k2 hv3.root
  obtain ⟨a3, c3, rfl, s3, _⟩ := owns_slV hv3.own
  go_wp2_with fail
  refine (cMA a3 c3 _ s3 (hm.kept k3)).mono ?_
  rintro e w4 ⟨rfl, hb4⟩
  have k4 := below2 k3 hb4
  go_wp2_with fail
  refine (cFB _ (hb.kept k4)).mono ?_
  rintro e w5 ⟨v5, rfl, hv5⟩
  have k5 := below2 k4 hv5.root
  obtain ⟨a5, c5, rfl, s5, _⟩ := owns_slV hv5.own
  go_wp2_with fail
  refine (cMB a5 c5 _ s5 (hm.kept k5)).mono ?_
  rintro e w6 ⟨rfl, hb6⟩
  have k6 := below2 k5 hb6
  go_wp2_with fail
  refine (cC _ (ha.kept k6) (hb.kept k6)).mono ?_
  rintro e w7 ⟨rfl, hb7⟩
  have k7 := below2 k6 hb7
  go_wp2_with fail
  refine (kwakes_any _ (hm.kept k7)).mono ?_
  rintro e w9 ⟨rfl, hb9⟩
  go_wp2_with fail
  go_ret
  exact ⟨rfl, below2 k7 hb9⟩

set_option maxHeartbeats 1600000 in
set_option maxRecDepth 100000 in
theorem keyOrder_big (A B : List V) (a b : Option Addr) (ca cb : Nat) (w : World) (hm : ML w) (ha : SlV w a A) (hb : SlV w b B) (hla : A.length ≤ 9223372036854775807) (hlb : B.length ≤ 9223372036854775807) (h : bigL A = true ∨ bigL B = true) :
    Calls Tryd.prog 5 #[.slice a A.length ca, .slice b B.length cb] w fun e w' => e = .returned (.bool true) ∧ Below w.heap.size w w' := by
  have c1 := klarge_any A a ca w ha hla
  cases hA : bigL A with
  | true =>
    rw [hA] at c1
    go_enter Tryd.func5, Tryd.ntmps5
    go_wp2_with fail
    refine c1.mono ?_
    rintro e w1 ⟨rfl, hb1⟩
    go_wp2_with fail
    refine (kwakes_any _ (hm.kept hb1)).mono ?_
    rintro e w2 ⟨rfl, hb2⟩
    go_wp2_with fail
    go_ret
    exact ⟨rfl, below2 hb1 hb2⟩
  | false =>
    rw [hA] at c1
    have hB : bigL B = true := by
      rcases h with h | h
      · rw [hA] at h; cases h
      · exact h
    have c2 := fun w h => klarge_any B b cb w h hlb
    rw [hB] at c2
    go_enter Tryd.func5, Tryd.ntmps5
    go_wp2_with fail
    refine c1.mono ?_
    rintro e w1 ⟨rfl, hb1⟩
    go_wp2_with fail
    refine (c2 _ (hb.kept hb1)).mono ?_
    rintro e w2 ⟨rfl, hb2⟩
    go_wp2_with fail
    refine (kwakes_any _ ((hm.kept hb1).kept hb2)).mono ?_
    rintro e w3 ⟨rfl, hb3⟩
    go_wp2_with fail
    go_ret
    exact ⟨rfl, below3 hb1 hb2 hb3⟩

theorem keyOrder_in (A B : List V) (a b : Option Addr) (ca cb : Nat) (w : World) (hm : ML w) (ha : SlV w a A) (hb : SlV w b B) (hna : a = none → ca = 0) (hnb : b = none → cb = 0)
    (hA : bigL A = false) (hB : bigL B = false) (oA : ∀ v ∈ A, v.ok) (oB : ∀ v ∈ B, v.ok) :
    Calls Tryd.prog 5 #[.slice a A.length ca, .slice b B.length cb] w fun e w' => e = .returned (.bool true) ∧ Below w.heap.size w w' := by
  have lA := (bigL_small hA).1
  have lB := (bigL_small hB).1
  have eB : mk B = .tuple #[.string (ba (mkS B)), .int .i64 (mkE B)] := rfl
  rcases mkE_cases A with ⟨zA, fA, nA⟩ | ⟨zA, T1, E1, q1, q2⟩
  · rcases mkE_cases B with ⟨zB, fB, nB⟩ | ⟨zB, T2, E2, q3, q4⟩
    · obtain ⟨o1, o2⟩ := key_order A B (fitsB_fit fA oA) (fitsB_fit fB oB)
      refine keyOrder_good A B a b ca cb w hm ha hb hna hnb lA lB hA hB oA oB _ _ _ _ (mk_yes fA nA) (mk_yes fB nB) rfl rfl _ rfl _ _ ?_ rfl ?_ rfl
      · rw [ba_list, ba_list]; exact o1
      · rw [ba_list, ba_list, Bool.eq_iff_iff, beq_iff_eq, beq_iff_eq]; exact o2
    · exact keyOrder_bad2 A B a b ca cb w hm ha hb hna hnb lA lB hA hB oA oB _ _ _ _ (mk_yes fA nA) q3 rfl q4
  · exact keyOrder_bad1 A B a b ca cb w hm ha hb hna hnb lA lB hA hB oA oB _ _ _ _ q1 eB q2

set_option maxRecDepth 100000 in
theorem keyOrder_open (v0 v1 : Value) (W : World) (hm : ML W) {H : Type} {enc : TypeId × Value → H} {base : Nat} {d0 d1 : DataW H} {p0 p1 : List MemPlace}
    (hv0 : Value.okWide Tryd.prog W .any base 22 v0) (h0 : DataW.Trod enc Tryd.prog W 0 (fun _ => true) true 22 v0 d0 p0)
    (hv1 : Value.okWide Tryd.prog W .any base 22 v1) (h1 : DataW.Trod enc Tryd.prog W 0 (fun _ => true) true 22 v1 d1 p1) :
    Calls Tryd.prog 5 #[v0, v1] W fun e w' => e = .returned (.bool true) ∧ Below W.heap.size W w' := by
  obtain ⟨a, A, ca, rfl, ha, oA, lA, hna⟩ := open_values hv0 h0
  obtain ⟨b, B, cb, rfl, hb, oB, lB, hnb⟩ := open_values hv1 h1
  unfold maxLen at lA lB
  cases hA : bigL A with
  | true => exact keyOrder_big A B a b ca cb W hm ha hb (by omega) (by omega) (Or.inl hA)
  | false =>
    cases hB : bigL B with
    | true => exact keyOrder_big A B a b ca cb W hm ha hb (by omega) (by omega) (Or.inr hB)
    | false => exact keyOrder_in A B a b ca cb W hm ha hb hna hnb hA hB (fun v hv => (oA v hv).1) (fun v hv => (oB v hv).1)

end Go.Proofs.YtijpnlomfodihaaDoor

/- KeyBack: the walk. -/
import Derived.Test.YtijpnlomfodihaaDoorKJoins
namespace Go.Proofs.YtijpnlomfodihaaDoor
open Go.RowKit

theorem sp_cases (S : List UInt8) : (∃ A, spL S = A ∧ spE S = 0 ∧ Fit A ∧ kvs A = S ∧ S.length ≤ 4096) ∨ (spL S = [] ∧ (spE S != 0) = true) := by
  unfold spL spE
  by_cases h : S.length ≤ 4096
  · rw [if_pos h, if_pos h]
    cases hs : spl S with
    | none => exact Or.inr ⟨rfl, by decide⟩
    | some A =>
      obtain ⟨h1, h2⟩ := spl_back hs
      exact Or.inl ⟨A, rfl, rfl, h1, h2, h⟩
  · rw [if_neg h, if_neg h]
    exact Or.inr ⟨rfl, by decide⟩

theorem fit_fitsB {A : List V} (h : Fit A) : fitsB A = true := List.all_eq_true.2 fun v hv => (h v hv).1

theorem kvs_count (A : List V) : A.length ≤ (kvs A).length := by
  induction A with
  | nil => simp
  | cons v A ih => rw [kvs_cons]; simp [kv]; omega

set_option maxHeartbeats 1600000 in
set_option maxRecDepth 100000 in
theorem keyBack_big (L : List V) (a : Option Addr) (ca : Nat) (s : ByteArray) (w : World) (hm : ML w) (ha : SlV w a L) (hla : L.length ≤ 9223372036854775807) (h : bigL L = true ∨ 20000 < s.size) :
    Calls Tryd.prog 6 #[.slice a L.length ca, .string s] w fun e w' => e = .returned (.bool true) ∧ Below w.heap.size w w' := by
  have c1 := klarge_any L a ca w ha hla
  cases hA : bigL L with
  | true =>
    rw [hA] at c1
    go_enter Tryd.func6, Tryd.ntmps6
    go_wp2_with fail
    refine c1.mono ?_
    rintro e w1 ⟨rfl, hb1⟩
    go_wp2_with fail
    refine (kwakes_any _ (hm.kept hb1)).mono ?_
    rintro e w2 ⟨rfl, hb2⟩
    go_wp2_with fail
    go_ret
    exact ⟨rfl, below2 hb1 hb2⟩
  | false =>
    rw [hA] at c1
    have hB : 20000 < s.size := by
      rcases h with h | h
      · rw [hA] at h; cases h
      · exact h
    go_enter Tryd.func6, Tryd.ntmps6
    go_wp2_with fail
    refine c1.mono ?_
    rintro e w1 ⟨rfl, hb1⟩
    go_wp2_with fail
    refine (kwakes_any _ (hm.kept hb1)).mono ?_
    rintro e w2 ⟨rfl, hb2⟩
    go_wp2_with fail
    go_ret
    exact ⟨rfl, below2 hb1 hb2⟩

set_option maxHeartbeats 1600000 in
set_option maxRecDepth 100000 in
theorem keyBack_YY (L : List V) (a : Option Addr) (ca : Nat) (s : ByteArray) (w : World) (hm : ML w) (ha : SlV w a L) (hna : a = none → ca = 0) (hla : L.length ≤ 100) (hL : bigL L = false) (oL : ∀ v ∈ L, v.ok) (hs : s.size ≤ 20000) (T : ByteArray) (E : Int)
    (mL : mk L = .tuple #[.string T, .int .i64 E]) (f1 : E = 0) (f2 : spL T.data.toList = L) (f3 : spE T.data.toList = 0) (f4 : T.size ≤ 4096) (A : List V) (g1 : spL s.data.toList = A) (g2 : spE s.data.toList = 0) (g3 : A.length ≤ 4096) (oA : ∀ v ∈ A, v.ok) (g4 : mk A = .tuple #[.string s, .int .i64 0]) :
    Calls Tryd.prog 6 #[.slice a L.length ca, .string s] w fun e w' => e = .returned (.bool true) ∧ Below w.heap.size w w' := by
  have c1 := klarge_any L a ca w ha (by omega)
  rw [hL] at c1
  have cF := fun w h => kfew_any L a ca w h hna (by omega)
  have cM := fun a c w h hm => make_any L a c w h oL hm (by omega)
  rw [mL] at cM
  have cT := fun w => split_any T w (by omega)
  rw [f2, f3] at cT
  have cV := fun a a' c c' w h h' => keepValues_any L a a' c c' w h h' (by omega)
  subst f1
  have cS := fun w => split_any s w (by omega)
  rw [g1, g2] at cS
  have cA := fun a c w h hm => make_any A a c w h oA hm (by omega)
  rw [g4] at cA
  have ge : (s.toList == s.toList) = true := by simp
  clear mL oL hL g1 g2 f2 f3 g4 oA
  go_enter Tryd.func6, Tryd.ntmps6
  go_wp2_with fail
  refine c1.mono ?_
  rintro e w1 ⟨rfl, hb1⟩
  go_wp2_with fail
  refine (cF _ (ha.kept hb1)).mono ?_
  rintro e w3 ⟨v3, rfl, hv3⟩
  have k3 := below2 hb1 hv3.root
  obtain ⟨a3, c3, rfl, s3, _⟩ := owns_slV hv3.own
  go_wp2_with fail
  refine (cM a3 c3 _ s3 (hm.kept k3)).mono ?_
  rintro e w4 ⟨rfl, hb4⟩
  have k4 := below2 k3 hb4
  go_wp2_with fail
  refine (cT _).mono ?_
  rintro e w5 ⟨a5, c5, rfl, s5, _, hb5⟩
  have k5 := below2 k4 hb5
  go_wp2_with fail
  refine (cV a5 a c5 ca _ s5 (ha.kept k5)).mono ?_
  rintro e w6 ⟨rfl, hb6⟩
  have k6 := below2 k5 hb6
  go_wp2_with fail
  refine (cS _).mono ?_
  rintro e w7 ⟨a7, c7, rfl, s7, _, hb7⟩
  have k7 := below2 k6 hb7
  go_wp2_with fail
  refine (cA a7 c7 _ s7 (hm.kept k7)).mono ?_
  rintro e w8 ⟨rfl, hb8⟩
  have k8 := below2 k7 hb8
  go_wp2_with fail
  refine (kwakes_any _ (hm.kept k8)).mono ?_
  rintro e w9 ⟨rfl, hb9⟩
  go_wp2_with fail
  go_ret
  exact ⟨rfl, below2 k8 hb9⟩

set_option maxHeartbeats 1600000 in
set_option maxRecDepth 100000 in
theorem keyBack_YN (L : List V) (a : Option Addr) (ca : Nat) (s : ByteArray) (w : World) (hm : ML w) (ha : SlV w a L) (hna : a = none → ca = 0) (hla : L.length ≤ 100) (hL : bigL L = false) (oL : ∀ v ∈ L, v.ok) (hs : s.size ≤ 20000) (T : ByteArray) (E : Int)
    (mL : mk L = .tuple #[.string T, .int .i64 E]) (f1 : E = 0) (f2 : spL T.data.toList = L) (f3 : spE T.data.toList = 0) (f4 : T.size ≤ 4096) (F : Int) (g1 : spL s.data.toList = []) (g2 : spE s.data.toList = F) (g3 : (F != 0) = true) :
    Calls Tryd.prog 6 #[.slice a L.length ca, .string s] w fun e w' => e = .returned (.bool true) ∧ Below w.heap.size w w' := by
  have c1 := klarge_any L a ca w ha (by omega)
  rw [hL] at c1
  have cF := fun w h => kfew_any L a ca w h hna (by omega)
  have cM := fun a c w h hm => make_any L a c w h oL hm (by omega)
  rw [mL] at cM
  have cT := fun w => split_any T w (by omega)
  rw [f2, f3] at cT
  have cV := fun a a' c c' w h h' => keepValues_any L a a' c c' w h h' (by omega)
  subst f1
  have cS := fun w => split_any s w (by omega)
  rw [g1, g2] at cS
  clear mL oL hL g1 g2 f2 f3 
  go_enter Tryd.func6, Tryd.ntmps6
  go_wp2_with fail
  refine c1.mono ?_
  rintro e w1 ⟨rfl, hb1⟩
  go_wp2_with fail
  refine (cF _ (ha.kept hb1)).mono ?_
  rintro e w3 ⟨v3, rfl, hv3⟩
  have k3 := below2 hb1 hv3.root
  obtain ⟨a3, c3, rfl, s3, _⟩ := owns_slV hv3.own
  go_wp2_with fail
  refine (cM a3 c3 _ s3 (hm.kept k3)).mono ?_
  rintro e w4 ⟨rfl, hb4⟩
  have k4 := below2 k3 hb4
  go_wp2_with fail
  refine (cT _).mono ?_
  rintro e w5 ⟨a5, c5, rfl, s5, _, hb5⟩
  have k5 := below2 k4 hb5
  go_wp2_with fail
  refine (cV a5 a c5 ca _ s5 (ha.kept k5)).mono ?_
  rintro e w6 ⟨rfl, hb6⟩
  have k6 := below2 k5 hb6
  go_wp2_with fail
  refine (cS _).mono ?_
  rintro e w7 ⟨a7, c7, rfl, s7, _, hb7⟩
  have k7 := below2 k6 hb7
  have k8 := k7
  go_wp2_with fail
  refine (kwakes_any _ (hm.kept k8)).mono ?_
  rintro e w9 ⟨rfl, hb9⟩
  go_wp2_with fail
  go_ret
  exact ⟨rfl, below2 k8 hb9⟩

set_option maxHeartbeats 1600000 in
set_option maxRecDepth 100000 in
theorem keyBack_NY (L : List V) (a : Option Addr) (ca : Nat) (s : ByteArray) (w : World) (hm : ML w) (ha : SlV w a L) (hna : a = none → ca = 0) (hla : L.length ≤ 100) (hL : bigL L = false) (oL : ∀ v ∈ L, v.ok) (hs : s.size ≤ 20000) (T : ByteArray) (E : Int)
    (mL : mk L = .tuple #[.string T, .int .i64 E]) (f1 : (E != 0) = true) (A : List V) (g1 : spL s.data.toList = A) (g2 : spE s.data.toList = 0) (g3 : A.length ≤ 4096) (oA : ∀ v ∈ A, v.ok) (g4 : mk A = .tuple #[.string s, .int .i64 0]) :
    Calls Tryd.prog 6 #[.slice a L.length ca, .string s] w fun e w' => e = .returned (.bool true) ∧ Below w.heap.size w w' := by
  have c1 := klarge_any L a ca w ha (by omega)
  rw [hL] at c1
  have cF := fun w h => kfew_any L a ca w h hna (by omega)
  have cM := fun a c w h hm => make_any L a c w h oL hm (by omega)
  rw [mL] at cM
  have cS := fun w => split_any s w (by omega)
  rw [g1, g2] at cS
  have cA := fun a c w h hm => make_any A a c w h oA hm (by omega)
  rw [g4] at cA
  have ge : (s.toList == s.toList) = true := by simp
  clear mL oL hL g1 g2  g4 oA
  go_enter Tryd.func6, Tryd.ntmps6
  go_wp2_with fail
  refine c1.mono ?_
  rintro e w1 ⟨rfl, hb1⟩
  go_wp2_with fail
  refine (cF _ (ha.kept hb1)).mono ?_
  rintro e w3 ⟨v3, rfl, hv3⟩
  have k3 := below2 hb1 hv3.root
  obtain ⟨a3, c3, rfl, s3, _⟩ := owns_slV hv3.own
  go_wp2_with fail
  refine (cM a3 c3 _ s3 (hm.kept k3)).mono ?_
  rintro e w4 ⟨rfl, hb4⟩
  have k4 := below2 k3 hb4
  have k6 := k4
  go_wp2_with fail
  refine (cS _).mono ?_
  rintro e w7 ⟨a7, c7, rfl, s7, _, hb7⟩
  have k7 := below2 k6 hb7
  go_wp2_with fail
  refine (cA a7 c7 _ s7 (hm.kept k7)).mono ?_
  rintro e w8 ⟨rfl, hb8⟩
  have k8 := below2 k7 hb8
  go_wp2_with fail
  refine (kwakes_any _ (hm.kept k8)).mono ?_
  rintro e w9 ⟨rfl, hb9⟩
  go_wp2_with fail
  go_ret
  exact ⟨rfl, below2 k8 hb9⟩

set_option maxHeartbeats 1600000 in
set_option maxRecDepth 100000 in
theorem keyBack_NN (L : List V) (a : Option Addr) (ca : Nat) (s : ByteArray) (w : World) (hm : ML w) (ha : SlV w a L) (hna : a = none → ca = 0) (hla : L.length ≤ 100) (hL : bigL L = false) (oL : ∀ v ∈ L, v.ok) (hs : s.size ≤ 20000) (T : ByteArray) (E : Int)
    (mL : mk L = .tuple #[.string T, .int .i64 E]) (f1 : (E != 0) = true) (F : Int) (g1 : spL s.data.toList = []) (g2 : spE s.data.toList = F) (g3 : (F != 0) = true) :
    Calls Tryd.prog 6 #[.slice a L.length ca, .string s] w fun e w' => e = .returned (.bool true) ∧ Below w.heap.size w w' := by
  have c1 := klarge_any L a ca w ha (by omega)
  rw [hL] at c1
  have cF := fun w h => kfew_any L a ca w h hna (by omega)
  have cM := fun a c w h hm => make_any L a c w h oL hm (by omega)
  rw [mL] at cM
  have cS := fun w => split_any s w (by omega)
  rw [g1, g2] at cS
  clear mL oL hL g1 g2  
  go_enter Tryd.func6, Tryd.ntmps6
  go_wp2_with fail
  refine c1.mono ?_
  rintro e w1 ⟨rfl, hb1⟩
  go_wp2_with fail
  refine (cF _ (ha.kept hb1)).mono ?_
  rintro e w3 ⟨v3, rfl, hv3⟩
  have k3 := below2 hb1 hv3.root
  obtain ⟨a3, c3, rfl, s3, _⟩ := owns_slV hv3.own
  go_wp2_with fail
  refine (cM a3 c3 _ s3 (hm.kept k3)).mono ?_
  rintro e w4 ⟨rfl, hb4⟩
  have k4 := below2 k3 hb4
  have k6 := k4
  go_wp2_with fail
  refine (cS _).mono ?_
  rintro e w7 ⟨a7, c7, rfl, s7, _, hb7⟩
  have k7 := below2 k6 hb7
  have k8 := k7
  go_wp2_with fail
  refine (kwakes_any _ (hm.kept k8)).mono ?_
  rintro e w9 ⟨rfl, hb9⟩
  go_wp2_with fail
  go_ret
  exact ⟨rfl, below2 k8 hb9⟩

theorem keyBack_in (L : List V) (a : Option Addr) (ca : Nat) (s : ByteArray) (w : World) (hm : ML w) (ha : SlV w a L) (hna : a = none → ca = 0) (hL : bigL L = false) (oL : ∀ v ∈ L, v.ok) (hs : s.size ≤ 20000) :
    Calls Tryd.prog 6 #[.slice a L.length ca, .string s] w fun e w' => e = .returned (.bool true) ∧ Below w.heap.size w w' := by
  have lL := (bigL_small hL).1
  have ht : ∀ (l : List UInt8), (ba l).data.toList = l := fun l => by simp [ba]
  rcases sp_cases s.data.toList with ⟨A, q1, q2, q3, q4, q5⟩ | ⟨q1, q2⟩
  · have g3 : A.length ≤ 4096 := by have := kvs_count A; rw [q4] at this; omega
    have hsA : ba (kvs A) = s := by rw [q4]; simp [ba]
    have g4 : mk A = .tuple #[.string s, .int .i64 0] := by rw [mk_yes (fit_fitsB q3) (by rw [q4]; exact q5), hsA]
    have oA : ∀ v ∈ A, v.ok := fun v hv => (q3 v hv).2
    rcases mkE_cases L with ⟨_, fL, nL⟩ | ⟨_, T, E, r1, r2⟩
    · obtain ⟨z1, z2⟩ := sp_end nL rfl (fitsB_fit fL oL)
      exact keyBack_YY L a ca s w hm ha hna lL hL oL hs _ _ (mk_yes fL nL) rfl (by rw [ht]; exact z1) (by rw [ht]; exact z2) nL A q1 q2 g3 oA g4
    · exact keyBack_NY L a ca s w hm ha hna lL hL oL hs _ _ r1 r2 A q1 q2 g3 oA g4
  · rcases mkE_cases L with ⟨_, fL, nL⟩ | ⟨_, T, E, r1, r2⟩
    · obtain ⟨z1, z2⟩ := sp_end nL rfl (fitsB_fit fL oL)
      exact keyBack_YN L a ca s w hm ha hna lL hL oL hs _ _ (mk_yes fL nL) rfl (by rw [ht]; exact z1) (by rw [ht]; exact z2) nL _ q1 rfl q2
    · exact keyBack_NN L a ca s w hm ha hna lL hL oL hs _ _ r1 r2 _ q1 rfl q2

set_option maxRecDepth 100000 in
theorem keyBack_open (v0 : Value) (s : ByteArray) (W : World) (hm : ML W) {H : Type} {enc : TypeId × Value → H} {base : Nat} {d0 : DataW H} {p0 : List MemPlace}
    (hv0 : Value.okWide Tryd.prog W .any base 22 v0) (h0 : DataW.Trod enc Tryd.prog W 0 (fun _ => true) true 22 v0 d0 p0) (_hs : s.size ≤ maxLen) :
    Calls Tryd.prog 6 #[v0, .string s] W fun e w' => e = .returned (.bool true) ∧ Below W.heap.size W w' := by
  obtain ⟨a, L, ca, rfl, ha, oL, lL, hna⟩ := open_values hv0 h0
  unfold maxLen at lL
  cases hL : bigL L with
  | true => exact keyBack_big L a ca s W hm ha lL (Or.inl hL)
  | false =>
    by_cases h : 20000 < s.size
    · exact keyBack_big L a ca s W hm ha lL (Or.inr h)
    · exact keyBack_in L a ca s W hm ha hna hL (fun v hv => (oL v hv).1) (by omega)

end Go.Proofs.YtijpnlomfodihaaDoor

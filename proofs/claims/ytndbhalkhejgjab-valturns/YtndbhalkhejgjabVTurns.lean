/- The walk of ValTurns. -/
import Derived.Test.YtndbhalkhejgjabVTurnsB
import Derived.Test.YtndbhalkhejgjabVTurnsC
import Derived.Test.YtndbhalkhejgjabVWakes
namespace Go.Proofs.Ytndbhalkhejgjab
open Go.RowKit

theorem turns_good (s0 s1 : ByteArray) (v x : V) (w : World) (h0 : ¬ 1000 < s0.size) (h1 : ¬ 1000 < s1.size) (h2 : ¬ 5000 < v.s.size) (h3 : ¬ 5000 < x.s.size) (h4 : goodB v = true) (h5 : goodB x = true) :
    Calls Try.prog 4 #[.agg #[.string s0, .string s1], v.val, x.val] w fun e w' => e = .returned (.bool true) ∧ Below w.heap.size w w' := by
  have small : ∀ (n m : ByteArray) (y z : V), n.size ≤ 281474976710656 → y.s.size ≤ 281474976710656 → m.size ≤ 281474976710656 → z.s.size ≤ 281474976710656 → ∀ p ∈ [(⟨n, y⟩ : Pr), ⟨m, z⟩], smallP p := by
    intro n m y z hn hy hm hz p hp
    simp at hp
    rcases hp with rfl | rfl
    · exact ⟨hn, hy⟩
    · exact ⟨hm, hz⟩
  by_cases he : s0 = s1
  · subst he
    exact turns_same vwakes_any s0 v x w (by omega) h2 h3 h4 h5
  · have k4 := good_kind h4
    have k5 := good_kind h5
    cases hl : ltS s0 s1 with
    | true =>
      exact turns_two vwakes_any s0 s1 v x w (by omega) (by omega) h2 h3 h4 h5 s0 s1 v x he hl (set_after _ _ _ _ k5 hl) (set_ahead _ _ _ _ k4 hl) (set_two_first _ _ _ _ k4 hl)
        (by simp [setL, setGo, noV, Ne.symm he]) (small _ _ _ _ (by omega) (by omega) (by omega) (by omega))
    | false =>
      have hl' : ltS s1 s0 = true := by
        cases hg : ltS s1 s0 with
        | true => rfl
        | false => exact absurd (ltS_total hl hg) he
      exact turns_two vwakes_any s0 s1 v x w (by omega) (by omega) h2 h3 h4 h5 s1 s0 x v he hl' (set_ahead _ _ _ _ k5 hl') (set_after _ _ _ _ k4 hl') (set_two_last _ _ _ _ k4 hl')
        (by simp [setL, setGo, noV, Ne.symm he]) (small _ _ _ _ (by omega) (by omega) (by omega) (by omega))

theorem turns_any (s0 s1 : ByteArray) (v x : V) (w : World) :
    Calls Try.prog 4 #[.agg #[.string s0, .string s1], v.val, x.val] w fun e w' => e = .returned (.bool true) ∧ Below w.heap.size w w' := by
  by_cases h0 : 1000 < s0.size
  · exact turns_1 vwakes_any s0 s1 v x w (by omega)
  · by_cases h1 : 1000 < s1.size
    · exact turns_2 vwakes_any s0 s1 v x w (by omega) (by omega)
    · by_cases h2 : 5000 < v.s.size
      · exact turns_3 vwakes_any s0 s1 v x w (by omega) (by omega) h2
      · by_cases h3 : 5000 < x.s.size
        · exact turns_4 vwakes_any s0 s1 v x w (by omega) (by omega) h2 h3
        · cases h4 : goodB v with
          | false => exact turns_5 vwakes_any s0 s1 v x w (by omega) (by omega) h2 h3 h4
          | true =>
            cases h5 : goodB x with
            | false => exact turns_6 vwakes_any s0 s1 v x w (by omega) (by omega) h2 h3 h4 h5
            | true => exact turns_good s0 s1 v x w h0 h1 h2 h3 h4 h5

theorem turns_open (v0 v1 v2 : Value) (W : World) {H : Type} {enc : TypeId × Value → H} {base : Nat} {d0 d1 d2 : DataW H} {p0 p1 p2 : List MemPlace}
    (hv0 : Value.okWide Try.prog W .any base 23 v0) (h0 : DataW.Trod enc Try.prog W 0 (fun _ => true) true 23 v0 d0 p0)
    (hv1 : Value.okWide Try.prog W .any base 25 v1) (h1 : DataW.Trod enc Try.prog W 0 (fun _ => true) true 25 v1 d1 p1)
    (hv2 : Value.okWide Try.prog W .any base 25 v2) (h2 : DataW.Trod enc Try.prog W 0 (fun _ => true) true 25 v2 d2 p2) :
    Calls Try.prog 4 #[v0, v1, v2] W fun e w' => e = .returned (.bool true) ∧ Below W.heap.size W w' := by
  obtain ⟨s0, s1, rfl⟩ := open_texts hv0 h0
  obtain ⟨v, rfl, _⟩ := open_value hv1 h1
  obtain ⟨x, rfl, _⟩ := open_value hv2 h2
  exact turns_any s0 s1 v x W

end Go.Proofs.Ytndbhalkhejgjab

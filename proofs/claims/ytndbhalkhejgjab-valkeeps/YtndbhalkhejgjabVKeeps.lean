/- The walk of ValKeeps. -/
import Derived.Test.YtndbhalkhejgjabVKeepsB
import Derived.Test.YtndbhalkhejgjabVKeepsC
import Derived.Test.YtndbhalkhejgjabVKeepsD
import Derived.Test.YtndbhalkhejgjabVKeepsE
import Derived.Test.YtndbhalkhejgjabVWakes
namespace Go.Proofs.Ytndbhalkhejgjab
open Go.RowKit

theorem keeps_good (L : List Pr) (a : Option Addr) (cap : Nat) (s0 s1 : ByteArray) (v : V) (w : World) (hsl : Sl w a L) (hcap : a = none → cap = 0) (h0 : largeL L = false) (h1 : ¬ 1000 < s0.size) (h2 : ¬ 1000 < s1.size) (h3 : ¬ 5000 < v.s.size)
    (h4 : propsB L = true) (h5 : nameB s0 = true) (h6 : goodB v = true) :
    Calls Try.prog 3 #[.slice a L.length cap, .agg #[.string s0, .string s1], v.val] w fun e w' => e = .returned (.bool true) ∧ Below w.heap.size w w' := by
  by_cases h8 : (setL L s0 v).length ≤ 8
  · by_cases he : s1 = s0
    · subst he
      exact keeps_B vwakes_any L a cap s1 v w hsl hcap h0 (by omega) h3 h4 h5 h6 h8
    · exact keeps_C vwakes_any L a cap s0 s1 v w hsl hcap h0 (by omega) (by omega) h3 h4 h5 h6 h8 he
  · by_cases he : s1 = s0
    · subst he
      exact keeps_D vwakes_any L a cap s1 v w hsl hcap h0 (by omega) h3 h4 h5 h6 h8
    · exact keeps_E vwakes_any L a cap s0 s1 v w hsl hcap h0 (by omega) (by omega) h3 h4 h5 h6 h8 he

theorem keeps_any (L : List Pr) (a : Option Addr) (cap : Nat) (s0 s1 : ByteArray) (v : V) (w : World) (hsl : Sl w a L) (hcap : a = none → cap = 0) :
    Calls Try.prog 3 #[.slice a L.length cap, .agg #[.string s0, .string s1], v.val] w fun e w' => e = .returned (.bool true) ∧ Below w.heap.size w w' := by
  cases h0 : largeL L with
  | true => exact keeps_1 vwakes_any L a cap s0 s1 v w hsl h0
  | false =>
    have hS : ∀ p ∈ L, smallP p := fun p hp => ⟨by have := ((largeL_no h0).2 p hp).1; omega, by have := ((largeL_no h0).2 p hp).2; omega⟩
    by_cases h1 : 1000 < s0.size
    · exact keeps_2 vwakes_any L a cap s0 s1 v w hsl h0 (by omega)
    · by_cases h2 : 1000 < s1.size
      · exact keeps_3 vwakes_any L a cap s0 s1 v w hsl h0 (by omega) (by omega)
      · by_cases h3 : 5000 < v.s.size
        · exact keeps_4 vwakes_any L a cap s0 s1 v w hsl h0 (by omega) (by omega) h3
        · cases h4 : propsB L with
          | false => exact keeps_5 vwakes_any L a cap s0 s1 v w hsl h0 (by omega) (by omega) h3 hS h4
          | true =>
            cases h5 : nameB s0 with
            | false => exact keeps_6 vwakes_any L a cap s0 s1 v w hsl h0 (by omega) (by omega) h3 hS h4 h5
            | true =>
              cases h6 : goodB v with
              | false => exact keeps_7 vwakes_any L a cap s0 s1 v w hsl h0 (by omega) (by omega) h3 hS h4 h5 h6
              | true => exact keeps_good L a cap s0 s1 v w hsl hcap h0 h1 h2 h3 h4 h5 h6

theorem keeps_open (v0 v1 v2 : Value) (W : World) {H : Type} {enc : TypeId × Value → H} {base : Nat} {d0 d1 d2 : DataW H} {p0 p1 p2 : List MemPlace}
    (hv0 : Value.okWide Try.prog W .any base 22 v0) (h0 : DataW.Trod enc Try.prog W 0 (fun _ => true) true 22 v0 d0 p0)
    (hv1 : Value.okWide Try.prog W .any base 23 v1) (h1 : DataW.Trod enc Try.prog W 0 (fun _ => true) true 23 v1 d1 p1)
    (hv2 : Value.okWide Try.prog W .any base 25 v2) (h2 : DataW.Trod enc Try.prog W 0 (fun _ => true) true 25 v2 d2 p2) :
    Calls Try.prog 3 #[v0, v1, v2] W fun e w' => e = .returned (.bool true) ∧ Below W.heap.size W w' := by
  obtain ⟨a, L, cap, rfl, hsl, _, _, hcap⟩ := open_props hv0 h0
  obtain ⟨s0, s1, rfl⟩ := open_texts hv1 h1
  obtain ⟨v, rfl, _⟩ := open_value hv2 h2
  exact keeps_any L a cap s0 s1 v W hsl hcap

end Go.Proofs.Ytndbhalkhejgjab

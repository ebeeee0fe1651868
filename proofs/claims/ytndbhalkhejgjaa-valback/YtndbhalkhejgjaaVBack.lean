/- The walk of ValBack. -/
import Derived.Test.YtndbhalkhejgjaaVBackA
import Derived.Test.YtndbhalkhejgjaaVBackW0
import Derived.Test.YtndbhalkhejgjaaVBackW1
import Derived.Test.YtndbhalkhejgjaaVBackW2
import Derived.Test.YtndbhalkhejgjaaVBackW3
import Derived.Test.YtndbhalkhejgjaaVBackW4
import Derived.Test.YtndbhalkhejgjaaVBackW5
import Derived.Test.YtndbhalkhejgjaaVBackW6
import Derived.Test.YtndbhalkhejgjaaVBackW7
namespace Go.Proofs.Ytndbhalkhejgjaa
open Go.RowKit

theorem vback_any (v : V) (L : List Pr) (a : Option Addr) (cap : Nat) (s : ByteArray) (w : World) (hsl : Sl w a L) (hcap : a = none → cap = 0) (hN : ∀ p ∈ L, -9223372036854775808 ≤ p.v.n ∧ p.v.n ≤ 9223372036854775807) (hn : -9223372036854775808 ≤ v.n ∧ v.n ≤ 9223372036854775807) :
    Calls Try.prog 7 #[v.val, .slice a L.length cap, .string s] w fun e w' => e = .returned (.bool true) ∧ Below w.heap.size w w' := by
  by_cases h0 : 5000 < v.s.size
  · exact back_1 v L a cap s w hsl h0
  · cases h1 : largeL L with
    | true => exact back_2 v L a cap s w hsl h0 h1
    | false =>
      by_cases h2 : (100000 : Int) < (s.size : Int)
      · exact back_3 v L a cap s w hsl h0 h1 h2
      · by_cases hA : encV v = []
        · cases hB : propsB L <;> cases hC : (decV s 0).2.2 <;> cases hD : (decL s 0).2.2
          · exact back_w0 v L a cap s w hsl hcap hN hn h0 h1 h2 hA hB hC hD
          · exact back_w1 v L a cap s w hsl hcap hN hn h0 h1 h2 hA hB hC hD
          · exact back_w2 v L a cap s w hsl hcap hN hn h0 h1 h2 hA hB hC hD
          · exact back_w3 v L a cap s w hsl hcap hN hn h0 h1 h2 hA hB hC hD
          · exact back_w4 v L a cap s w hsl hcap hN hn h0 h1 h2 hA hB hC hD
          · exact back_w5 v L a cap s w hsl hcap hN hn h0 h1 h2 hA hB hC hD
          · exact back_w6 v L a cap s w hsl hcap hN hn h0 h1 h2 hA hB hC hD
          · exact back_w7 v L a cap s w hsl hcap hN hn h0 h1 h2 hA hB hC hD
        · cases hB : propsB L <;> cases hC : (decV s 0).2.2 <;> cases hD : (decL s 0).2.2
          · exact back_w8 v L a cap s w hsl hcap hN hn h0 h1 h2 hA hB hC hD
          · exact back_w9 v L a cap s w hsl hcap hN hn h0 h1 h2 hA hB hC hD
          · exact back_w10 v L a cap s w hsl hcap hN hn h0 h1 h2 hA hB hC hD
          · exact back_w11 v L a cap s w hsl hcap hN hn h0 h1 h2 hA hB hC hD
          · exact back_w12 v L a cap s w hsl hcap hN hn h0 h1 h2 hA hB hC hD
          · exact back_w13 v L a cap s w hsl hcap hN hn h0 h1 h2 hA hB hC hD
          · exact back_w14 v L a cap s w hsl hcap hN hn h0 h1 h2 hA hB hC hD
          · exact back_w15 v L a cap s w hsl hcap hN hn h0 h1 h2 hA hB hC hD

set_option maxRecDepth 100000 in
theorem vback_open (v0 v1 : Value) (s : ByteArray) (W : World) {H : Type} {enc : TypeId × Value → H} {base : Nat} {d0 d1 : DataW H} {p0 p1 : List MemPlace}
    (hv0 : Value.okWide Try.prog W .any base 23 v0) (h0 : DataW.Trod enc Try.prog W 0 (fun _ => true) true 23 v0 d0 p0)
    (hv1 : Value.okWide Try.prog W .any base 37 v1) (h1 : DataW.Trod enc Try.prog W 0 (fun _ => true) true 37 v1 d1 p1) (_hs : s.size ≤ maxLen) :
    Calls Try.prog 7 #[v0, v1, .string s] W fun e w' => e = .returned (.bool true) ∧ Below W.heap.size W w' := by
  obtain ⟨v, rfl, hok0, _⟩ := open_value hv0 h0
  obtain ⟨a, L, cap, rfl, hsl, hok, _, hcap⟩ := open_props hv1 h1
  exact vback_any v L a cap s W hsl hcap (fun p hp => ⟨(hok p hp).1.n0, (hok p hp).1.n1⟩) ⟨hok0.n0, hok0.n1⟩

end Go.Proofs.Ytndbhalkhejgjaa

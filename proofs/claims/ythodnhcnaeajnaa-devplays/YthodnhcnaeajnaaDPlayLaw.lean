/- DevPlays: for every input. -/
import Derived.Test.YthodnhcnaeajnaaDPlay
import Derived.Test.YthodnhcnaeajnaaDPlayM
import Derived.Test.YthodnhcnaeajnaaDPlayB
namespace Go.Proofs.Ythodnhcnaeajnaa
open Go.RowKit

set_option maxRecDepth 100000 in
theorem devPlays_walk {H : Type} {enc : TypeId × Value → H} {base : Nat} {d : DataW H} {ps : List MemPlace} (x : Int) (v : Value) (W : World) (_hx : -9223372036854775808 ≤ x ∧ x ≤ 9223372036854775807)
    (hv : Value.okWide Try.prog W .any base 22 v) (h : DataW.Trod enc Try.prog W 0 (fun _ => true) true 22 v d ps) :
    Calls Try.prog 3 #[.int .i64 x, v] W fun e w' => e = .returned (.bool true) ∧ Below W.heap.size W w' := by
  obtain ⟨a, L, c, rfl, hsl, hall, _⟩ := open_steps hv h
  by_cases h1 : x < 1 ∨ 8192 < x
  · exact devPlays_bad x _ W h1
  · by_cases h2 : 200 < x
    · have h3 : 0 ≤ x.tmod 200 := Int.tmod_nonneg _ (by omega)
      have h4 : x.tmod 200 < 200 := Int.tmod_lt_of_pos _ (by omega)
      by_cases h0 : x.tmod 200 = 0
      · exact devPlays_zero x _ W h2 (by omega) h0
      · exact devPlays_many x (x.tmod 200).toNat L a c W hsl hall (by omega) (by omega) h2 (by omega) (by omega)
    · have e := devPlays_few x.toNat L a c W hsl hall (by omega) (by omega)
      rw [show ((x.toNat : Nat) : Int) = x by omega] at e
      exact e

end Go.Proofs.Ythodnhcnaeajnaa

/- Flush. -/
import Derived.Test.YtjmdenlocmleiaaDWrite
namespace Go.Proofs.Ytjmdenlocmleiaa
open Go.RowKit

/-- What is flushed behind the first k writes. -/
def flN (f : Nat → ByteArray) (l : List (Nat × ByteArray)) : Nat → Nat → ByteArray
  | 0 => f
  | k + 1 => match l[k]? with
    | none => flN f l k
    | some p => upd (flN f l k) p.1 p.2

theorem flN_succ (f : Nat → ByteArray) (l : List (Nat × ByteArray)) (k : Nat) (p : Nat × ByteArray) (h : l[k]? = some p) : flN f l (k + 1) = upd (flN f l k) p.1 p.2 := by
  show (match l[k]? with
    | none => flN f l k
    | some p => upd (flN f l k) p.1 p.2) = _
  rw [h]

/-- A flush that is OK. -/
def DS.flushed (D : DS) : DS := { D with safe := flN D.safe D.held D.held.length, held := [], ops := D.ops + 1, left := D.left - 1 }

theorem Dev.hvOf {B : Nat} {w : World} {g gs : Nat} {hv : Value} {D : DS} (h : Dev B w g gs hv D) : ∃ a c, hv = .slice a D.held.length c := by
  rcases h.own.2 with ⟨e, hn⟩ | ⟨b, cap, cur, e, _⟩
  · exact ⟨_, _, by rw [hn]; exact e⟩
  · exact ⟨_, _, e⟩

theorem fr_alone {F : Nat → Prop} {a b c : World} (h : Fr F a b) (k : Fr F b c) : Fr F a c := h.trans k (fun _ _ x => x)

end Go.Proofs.Ytjmdenlocmleiaa

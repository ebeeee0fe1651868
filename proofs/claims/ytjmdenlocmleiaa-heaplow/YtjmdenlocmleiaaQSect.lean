/- sectors, Held, Dirty, Reads, Writes. -/
import Derived.Test.YtjmdenlocmleiaaQInts
namespace Go.Proofs.Ytjmdenlocmleiaa
open Go.RowKit

/-- The sectors of those of which q tells true. -/
def pgs (q : Fm → Bool) (l : List Fm) : List Int := (l.filter q).map (fun f => (f.pg : Int))

theorem pgs_step (q : Fm → Bool) (L : List (Nat × Fm)) (k b : Nat) (f : Fm) (hx : L[k]? = some (b, f)) : pgs q (frs (L.take (k + 1))) = pgs q (frs (L.take k)) ++ (if q f then [(f.pg : Int)] else []) := by
  have e : L.take (k + 1) = L.take k ++ [(b, f)] := by rw [List.take_add_one, hx]; rfl
  rw [e]
  by_cases h : q f = true <;> simp [pgs, frs, h]

theorem pgs_len (q : Fm → Bool) (l : List Fm) : (pgs q l).length ≤ l.length := by
  unfold pgs
  rw [List.length_map]
  exact List.length_filter_le _ _

section
variable {B bd : Nat} {w : World} {x : PX}

/-- What Held and Dirty tell. -/
def heldS (S : St) : List Int := sortI (pgs (fun _ => true) S.l)
def dirtyS (S : St) : List Int := sortI (pgs (fun f => f.dirty) S.l)

end
end Go.Proofs.Ytjmdenlocmleiaa

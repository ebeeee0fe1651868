/- Layer 10: the law's near, Same; the document's Depth. -/
import Derived.Test.YtkfoddblgdmababTrBoth
import Derived.BigQuiet
namespace Go.Proofs.Ytkfoddblgdmabab.tr
open Go.RowKit

/-- The end of a region: what its frame is, what is known of the world. -/
def EndQ (A : Act) (R : World → Prop) : Exit → Act → World → Prop
  | .normal, a, V => a = A ∧ R V
  | _, _, _ => False
theorem wp_end {P : Program} {c : Code} {Q : Exit → Act → World → Prop} {act : Act} {w : World} (A : Act) (R : World → Prop) (h : c.wp P (EndQ A R) act w) (hk : ∀ V, R V → Q .normal A V) : c.wp P Q act w := by
  refine Code.wp_mono (fun e a V h => ?_) h
  cases e with
  | normal => obtain ⟨rfl, r⟩ := h; exact hk V r
  | _ => exact (h : False).elim
theorem EndQ.mk {A : Act} {R : World → Prop} {V : World} (h : R V) : EndQ A R .normal A V := ⟨rfl, h⟩

def oK : Option Ent → ByteArray
  | some e => e.key
  | none => ⟨#[]⟩
def oN : Option Ent → Int
  | some e => e.n
  | none => 0
theorem optE_eq (o : Option Ent) : optE o = .agg #[.string (oK o), .int .i64 (oN o)] := by cases o <;> rfl
theorem nearV_eq (o : Option Ent) : (nearV o).toArray = #[.string (oK o), .int .i64 (oN o), .bool o.isSome] := by cases o <;> rfl



section
variable {W w w' : World} {B tb f q : Nat} {L : List Ent}
end

end Go.Proofs.Ytkfoddblgdmabab.tr

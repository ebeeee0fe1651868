/- Words that all layers share: the text of bytes; what lies below. -/
import Derived.Test.YtkjioabhdglkpaaGreatPutInt
import Derived.Test.YtkjioabhdglkpaaGreatBack
namespace Go.Proofs.YtkjioabhdglkpaaGreat
open Go.RowKit

/-- The text of bytes. -/
def ba (l : List UInt8) : ByteArray := ⟨l.toArray⟩

theorem ba_size (l : List UInt8) : (ba l).size = l.length := rfl
theorem ba_inj {a b : List UInt8} (h : ba a = ba b) : a = b := by
  unfold ba at h
  have h2 := congrArg ByteArray.data h
  simpa using h2
theorem ba_list (l : List UInt8) : (ba l).toList = l := by
  rw [ByteArray.toList_eq]
  rfl

theorem put_S (x : Int) (w : World) (S : ByteArray) (hS : S = ba (enc x.toNat)) (h0 : 0 ≤ x) (h1 : x < 18446744073709551616) :
    Calls Tryz.prog 90 #[.int .u64 x] w fun e w' => e = .returned (.string S) ∧ Below w.heap.size w w' := by
  subst hS
  exact put_int x w h0 h1

theorem below3 {a b c d : World} (h1 : Below a.heap.size a b) (h2 : Below b.heap.size b c) (h3 : Below c.heap.size c d) : Below a.heap.size a d :=
  (h1.trans (h2.mono h1.size)).trans (h3.mono (Nat.le_trans h1.size h2.size))

theorem below2 {a b c : World} (h1 : Below a.heap.size a b) (h2 : Below b.heap.size b c) : Below a.heap.size a c := h1.trans (h2.mono h1.size)

theorem below_alloc1 (W : World) (a : Obj) : Below W.heap.size W (W.alloc a) := (Below.refl _ W).alloc (Nat.le_refl _) a

theorem below_alloc3 (W : World) (a b c : Obj) : Below W.heap.size W (((W.alloc a).alloc b).alloc c) :=
  below3 (below_alloc1 W a) (below_alloc1 _ b) (below_alloc1 _ c)

/-- What is below stays, cell by cell. -/
theorem bcell {W w1 : World} (hb : Below W.heap.size W w1) : (∀ b o, b < W.heap.size → w1.cell? ⟨b, o, none⟩ = W.cell? ⟨b, o, none⟩) ∧ (∀ b o, b < W.heap.size → w1.frozen? ⟨b, o, none⟩ = W.frozen? ⟨b, o, none⟩) :=
  ⟨fun b o h => hb.cell (p := ⟨b, o, none⟩) h, fun b o h => hb.frozen (p := ⟨b, o, none⟩) h⟩

end Go.Proofs.YtkjioabhdglkpaaGreat

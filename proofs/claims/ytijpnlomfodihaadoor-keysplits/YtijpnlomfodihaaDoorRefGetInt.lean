/- The contracts of the document's own answers for GetInt, GetText. -/
import Derived.Test.YtijpnlomfodihaaDoorRefGet
import Derived.Laws.DeepStrings4
namespace Go.Proofs.YtijpnlomfodihaaDoor
open Go.RowKit

theorem below_box {w w1 : World} {z o : Obj} (hb : Below (w.alloc z).heap.size (w.alloc z) w1) (a b c : Value) :
    Below w.heap.size w ((((w1.setCell ⟨w.heap.size, 0, none⟩ a).setCell ⟨w.heap.size, 1, none⟩ b).setCell ⟨w.heap.size, 2, none⟩ c).alloc o) := by
  have h1 : Below w.heap.size w w1 := ((Below.refl _ w).alloc (Nat.le_refl _) z).trans (hb.mono (by simp))
  have h2 := ((h1.setCell (p := ⟨w.heap.size, 0, none⟩) (Nat.le_refl _) a).setCell (p := ⟨w.heap.size, 1, none⟩) (Nat.le_refl _) b).setCell (p := ⟨w.heap.size, 2, none⟩) (Nat.le_refl _) c
  exact h2.alloc h2.size o

theorem getAt_no (l : List UInt8) (p : Int) (h : (getAt l p).2.2 = false) : getAt l p = (0, 0, false) := by
  unfold getAt at *
  split
  · rename_i hp
    rw [if_pos hp] at h
    exact dec_no _ h
  · rfl

theorem cut_text2 (s : ByteArray) (a n : Nat) : s.extract a (a + n) = ba ((s.data.toList.drop a).take n) := by
  apply ByteArray.ext
  rw [← Array.toList_inj, ByteArray.data_extract, Array.toList_extract]
  simp [ba, List.extract]

end Go.Proofs.YtijpnlomfodihaaDoor

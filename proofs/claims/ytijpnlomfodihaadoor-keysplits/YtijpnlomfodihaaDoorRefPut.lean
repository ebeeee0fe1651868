/- The contracts of the document's own answers for Put, PutInt, PutText. -/
import Derived.Test.YtijpnlomfodihaaDoorBase
import Derived.Deep.RegionWith
namespace Go.Proofs.YtijpnlomfodihaaDoor
open Go.RowKit

theorem one_text (w1 : World) (B : Nat) (b : UInt8) (hc : w1.cell? ⟨B, 0, none⟩ = some (.int .u8 (b.toNat : Int))) :
    (convert 46 9 (.slice (some ⟨B, 0, none⟩) 1 1)).run Tryd.prog w1 = .ok (.string (ba [b])) w1 := by
  have e := run_convert_bytes_arg (P := Tryd.prog) w1 46 5 Tryd.underlying46 Tryd.underlying5 B 0 1 1 [(b.toNat : Int)] rfl (fun i hi => by
    obtain rfl : i = 0 := by omega
    simpa using hc) 9 Tryd.underlying9
  rw [e]
  simp [strOfNums, ba]

theorem kept_cell {W w1 : World} {x : Value} {t : TypeId} (hb : Below (W.alloc (.cells #[x] t)).drew.heap.size (W.alloc (.cells #[x] t)).drew w1) : w1.cell? ⟨W.heap.size, 0, none⟩ = some x := by
  rw [hb.cell (p := ⟨W.heap.size, 0, none⟩) (by simp)]
  simp

theorem below_alloc_drew {W w1 : World} {o : Obj} (hb : Below (W.alloc o).drew.heap.size (W.alloc o).drew w1) : Below W.heap.size W w1 :=
  (((Below.refl _ W).alloc (Nat.le_refl _) o).drew).trans (hb.mono (by simp))

theorem below_drew_alloc {W w1 : World} (hb : Below W.drew.heap.size W.drew w1) (o : Obj) : Below W.heap.size W (w1.alloc o) := by
  have h : Below W.heap.size W w1 := ((Below.refl _ W).drew).trans hb
  exact h.alloc h.size o

theorem ba_add (a : List UInt8) (t : ByteArray) : ba a ++ t = ba (a ++ t.data.toList) := by
  have := ByteArray.mk_append_mk a t.data.toList
  rw [show (ByteArray.mk t.data.toList.toArray) = t from by simp] at this
  exact this

theorem putText_S (t : ByteArray) (w : World) (S : ByteArray) (hS : S = ba (putT t.data.toList)) (h1 : t.size ≤ 9223372036854775797) :
    Calls Tryd.prog 65 #[.string t] w fun e w' => e = .returned (.string S) ∧ Below w.heap.size w w' := by
  subst hS
  exact putText_any t w h1

end Go.Proofs.YtijpnlomfodihaaDoor

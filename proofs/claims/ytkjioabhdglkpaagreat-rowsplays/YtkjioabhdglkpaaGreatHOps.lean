/- Beside a heap: its pool's Evict and Flush, its device's Read and Refuse; fair. -/
import Derived.Test.YtkjioabhdglkpaaGreatHArgs
namespace Go.Proofs.YtkjioabhdglkpaaGreat
open Go.RowKit

section
variable {W w w' : World} {hb p g bd n m : Nat} {V : Nat → ByteArray} {H : Hp} {A : List Nat} {z : Prop} {E E' : List (Nat × Obj)}

theorem Hs.evict (h : Hs W w hb p g bd n m V A z E) (hbd : bd ≤ 8000000) (k : Int) (h1 : -9223372036854775808 ≤ k) (h2 : k ≤ 9223372036854775807) :
    Calls Tryz.prog 17 #[.pointer (some ⟨p, 0, none⟩), .int .i64 k] w fun e w' => ∃ X, e = .returned (.int .i64 X) ∧ Hs W w' hb p g (bd + 1) n m V A z E := by
  obtain ⟨S, a, b, rfl, rfl, hz⟩ := h.ex
  refine (a.evict hbd k h1 h2).mono ?_
  rintro e w' ⟨rfl, q⟩
  obtain ⟨t, r⟩ := b.evict a.ok k
  exact ⟨_, rfl, ⟨_, q, r, t.dn, t.n, fun y => t.nx (hz y)⟩⟩

/-- A heap whose pages are all on the device. -/
structure Hf (W w : World) (hb p g bd n m : Nat) (V : Nat → ByteArray) (A : List Nat) (z : Prop) (E : List (Nat × Obj)) : Prop where
  ex : ∃ S, Q1 W w p g bd S ((hb, hobj p) :: E) ∧ Hv S V A ∧ S.D.n = n ∧ S.n = m ∧ (z → S.D.next ≤ 0) ∧ ∀ j, j < n → S.D.seen j = V j
theorem Hf.hs (h : Hf W w hb p g bd n m V A z E) : Hs W w hb p g bd n m V A z E := by
  obtain ⟨S, a, b, c, d, e, _⟩ := h.ex
  exact ⟨S, a, b, c, d, e⟩

theorem Hs.flush (h : Hs W w hb p g bd n m V A z E) (hz : z) (hbd : bd ≤ 8000000) :
    Calls Tryz.prog 21 #[.pointer (some ⟨p, 0, none⟩)] w fun e w' => e = .returned (.int .i64 0) ∧ Hf W w' hb p g (bd + 66) n m V A z E := by
  obtain ⟨S, a, b, rfl, rfl, hy⟩ := h.ex
  refine (a.flush hbd).mono ?_
  rintro e w' ⟨rfl, q⟩
  obtain ⟨r1, t, r2, r3⟩ := b.flush a.ok (hy hz)
  exact ⟨by rw [r1], ⟨_, q, r2, t.dn, t.n, fun y => t.nx (hy y), r3⟩⟩

theorem Hf.read (h : Hf W w hb p g bd n m V A z E) (i : Nat) (hi : i < n) :
    Calls Tryz.prog 146 #[.pointer (some ⟨g, 0, none⟩), .int .i64 (i : Int)] w fun e w' => e = .returned (.tuple #[.string (V i), .int .i64 0]) ∧ Hf W w' hb p g bd n m V A z E := by
  obtain ⟨S, a, b, rfl, rfl, hy, hs⟩ := h.ex
  refine (a.readUp i hi (by have := b.up; omega)).mono ?_
  rintro e w' ⟨rfl, q⟩
  exact ⟨by rw [hs i hi], ⟨S, q, b, rfl, rfl, hy, hs⟩⟩

/-- A heap made anew over the same pool. -/
theorem Hs.renew (h : Hs W w hb p g bd n m V A z E) : Hs W (w.alloc (hobj p)) w.heap.size p g bd n m V A z E := by
  obtain ⟨S, a, r⟩ := h.ex
  exact ⟨S, (a.alloc (hobj p)).less (fun y hy => (List.mem_cons.1 hy).elim (fun e => by rw [e]; simp) (fun q => by simp [q])), r⟩

end
end Go.Proofs.YtkjioabhdglkpaaGreat

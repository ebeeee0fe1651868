/- Each call of both devices: the same answer, and what they have behind it. -/
import Derived.Test.YtghocbaafdnddaaGreatRInv
namespace Go.Proofs.YtghocbaafdnddaaGreat
open Go.RowKit

/-- What a call makes of the document's device. -/
def RTo (B : Nat) (w : World) (g : Nat) (h : RH) (Q' : RS) (w' : World) : Prop :=
  ∃ h', RDev B w' g h' Q' ∧ Fr (rfoot g h) w w' ∧ ∀ k, rfoot g h' k → rfoot g h k ∨ w.heap.size ≤ k

section
variable {B : Nat} {w w' : World} {g gs : Nat} {hv : Value} {D : DS} {h : RH} {Q : RS}

theorem RTo.same (d : RDev B w g h Q) : RTo B w g h Q w := ⟨h, d, Fr.refl _ _, fun _ e => Or.inl e⟩
theorem RTo.of (d : RDev B w' g h Q) (f : Fr (rfoot g h) w w') : RTo B w g h Q w' := ⟨h, d, f, fun _ e => Or.inl e⟩
end

theorem Rel.bounds {b : Nat} {D : DS} {Q : RS} (hr : Rel D Q) (hi : Inv b D) (hb : b ≤ 100000) :
    (0 ≤ Q.ops ∧ Q.ops ≤ 1000000) ∧ (Q.armed = true → -1000000 ≤ Q.left ∧ Q.left ≤ 9223372036854775807) ∧ (0 ≤ Q.refuse ∧ Q.refuse ≤ 9223372036854775807) ∧ Q.held.length ≤ 1000000 ∧ Q.n ≤ 8192 := by
  obtain ⟨o0, o1⟩ := hi.ops
  obtain ⟨l0, l1⟩ := hi.left
  obtain ⟨n0, n1⟩ := hi.next
  have len := hi.len
  have := hi.n
  refine ⟨by rw [← hr.ops]; omega, fun a => ?_, ?_, by rw [← hr.held]; omega, by rw [← hr.n]; omega⟩
  · rcases hr.arm with ⟨a', _⟩ | ⟨_, l, m⟩
    · rw [a] at a'; cases a'
    · omega
  · rcases hr.ref with ⟨a, _⟩ | ⟨a, l⟩ <;> omega

/-- Write of both. -/
theorem write_both (b : Nat) (D : DS) (Q : RS) (hi : Inv b D) (hr : Rel D Q) (hb : b ≤ 100000) (x : Int) (s : ByteArray) :
    ∃ (E : Int) (D' : DS) (Q' : RS), Inv (b + 1) D' ∧ Rel D' Q' ∧
      (∀ B w g gs hv, Dev B w g gs hv D → B ≤ w.heap.size → Calls Tryz.prog 79 #[.pointer (some ⟨g, 0, none⟩), .int .i64 x, .string s] w fun e w' => e = .returned (.int .i64 E) ∧ DTo B w g gs hv D' w') ∧
      (∀ B w g h, RDev B w g h Q → B ≤ w.heap.size → Calls Tryz.prog 56 #[.pointer (some ⟨g, 0, none⟩), .int .i64 x, .string s] w fun e w' => e = .returned (.int .i64 E) ∧ RTo B w g h Q' w') := by
  obtain ⟨E, D', hi', hcase, cD⟩ := write_one b D hi hb x s
  obtain ⟨q1, q2, q3, q4, q5⟩ := hr.bounds hi hb
  have hdn := hr.down
  refine ⟨E, D', ?_⟩
  rcases hcase with ⟨hx, rfl, rfl⟩ | ⟨i, rfl, hin, hc⟩
  · refine ⟨Q, hi', hr, cD, fun B w g h r _ => (rwrite_place r x s (by rw [← hr.n]; exact hx)).mono ?_⟩
    rintro e w' ⟨rfl, rfl⟩
    exact ⟨rfl, .same r⟩
  · have hin' : i < Q.n := by rw [← hr.n]; exact hin
    rcases hc with ⟨hs, rfl, rfl⟩ | ⟨hs, hl, rfl, rfl⟩ | ⟨hs, hl, hn, rfl, rfl⟩ | ⟨hs, hl, hn, rfl, rfl⟩
    · refine ⟨Q, hi', hr, cD, fun B w g h r _ => (rwrite_long r i hin' s hs).mono ?_⟩
      rintro e w' ⟨rfl, rfl⟩
      exact ⟨rfl, .same r⟩
    · rw [hl] at hdn
      refine ⟨Q, hi', hr, cD, fun B w g h r _ => (rwrite_down r i hin' s hs hdn.symm).mono ?_⟩
      rintro e w' ⟨rfl, rfl⟩
      exact ⟨rfl, .same r⟩
    · rw [show (D.left == 0) = false by simpa using hl] at hdn
      have hq : Q.refuse = 1 := by rcases hr.ref with ⟨a, l⟩ | ⟨a, l⟩ <;> omega
      refine ⟨_, hi', hr.broken, cD, fun B w g h r _ => (rwrite_broken r i hin' s hs hdn.symm hq).mono ?_⟩
      rintro e w' ⟨rfl, r', f⟩
      exact ⟨rfl, .of r' f⟩
    · rw [show (D.left == 0) = false by simpa using hl] at hdn
      have hq : Q.refuse ≠ 1 := by rcases hr.ref with ⟨a, l⟩ | ⟨a, l⟩ <;> omega
      refine ⟨_, hi', hr.wrote i s hl hn, cD, fun B w g h r hB => (rwrite_ok r i hin' s hs hdn.symm hq hB q1 q2 q3 q4).mono ?_⟩
      rintro e w' ⟨rfl, h', r', f, gr⟩
      exact ⟨rfl, h', r', f, gr⟩

theorem flush_both (b : Nat) (D : DS) (Q : RS) (hi : Inv b D) (hr : Rel D Q) (hb : b ≤ 100000) :
    ∃ (E : Int) (D' : DS) (Q' : RS), Inv (b + 1) D' ∧ Rel D' Q' ∧
      (∀ B w g gs hv, Dev B w g gs hv D → Calls Tryz.prog 55 #[.pointer (some ⟨g, 0, none⟩)] w fun e w' => e = .returned (.int .i64 E) ∧ DTo B w g gs hv D' w') ∧
      (∀ B w g h, RDev B w g h Q → B ≤ w.heap.size → Calls Tryz.prog 57 #[.pointer (some ⟨g, 0, none⟩)] w fun e w' => e = .returned (.int .i64 E) ∧ RTo B w g h Q' w') := by
  obtain ⟨E, D', hi', hc, cD⟩ := flush_one b D hi hb
  obtain ⟨q1, q2, q3, q4, q5⟩ := hr.bounds hi hb
  have hdn := hr.down
  refine ⟨E, D', ?_⟩
  rcases hc with ⟨hl, rfl, rfl⟩ | ⟨hl, rfl, rfl⟩
  · rw [hl] at hdn
    refine ⟨Q, hi', hr, cD, fun B w g h r _ => (rflush_down r hdn.symm).mono ?_⟩
    rintro e w' ⟨rfl, rfl⟩
    exact ⟨rfl, .same r⟩
  · rw [show (D.left == 0) = false by simpa using hl] at hdn
    refine ⟨_, hi', hr.flushed hi hl, cD, fun B w g h r hB => (rflush_ok r hdn.symm hB q5 q1 q2).mono ?_⟩
    rintro e w' ⟨rfl, h', r', f, gr⟩
    exact ⟨rfl, h', r', f, gr⟩

theorem read_both (b : Nat) (D : DS) (Q : RS) (hi : Inv b D) (hr : Rel D Q) (x : Int) :
    ∃ (T : ByteArray) (E : Int),
      (∀ B w g gs hv, Dev B w g gs hv D → Calls Tryz.prog 39 #[.pointer (some ⟨g, 0, none⟩), .int .i64 x] w fun e w' => e = .returned (.tuple #[.string T, .int .i64 E]) ∧ Below w.heap.size w w') ∧
      (∀ B w g h, RDev B w g h Q → Calls Tryz.prog 40 #[.pointer (some ⟨g, 0, none⟩), .int .i64 x] w fun e w' => e = .returned (.tuple #[.string T, .int .i64 E]) ∧ w' = w) := by
  obtain ⟨T, E, hc, cD⟩ := read_one b D hi x
  refine ⟨T, E, cD, ?_⟩
  have hdn := hr.down
  rcases hc with ⟨hx, rfl, rfl⟩ | ⟨i, rfl, hin, hc⟩
  · exact fun B w g h r => rread_place r x (by rw [← hr.n]; exact hx)
  · have hin' : i < Q.n := by rw [← hr.n]; exact hin
    rcases hc with ⟨hl, rfl, rfl⟩ | ⟨hl, rfl, rfl⟩
    · rw [hl] at hdn
      exact fun B w g h r => rread_down r i hin' hdn.symm
    · rw [show (D.left == 0) = false by simpa using hl] at hdn
      exact fun B w g h r => rread_ok r i hin' hdn.symm _ (by rw [hr.seen])

end Go.Proofs.YtghocbaafdnddaaGreat

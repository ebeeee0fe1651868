/- Each call of both devices: the same answer, and what they have behind it. -/
import Derived.Test.YthodnhcnaeajnaaDInv
namespace Go.Proofs.Ythodnhcnaeajnaa
open Go.RowKit

/-- What a call makes of a device. -/
def DTo (B : Nat) (w : World) (g gs : Nat) (hv : Value) (D' : DS) (w' : World) : Prop :=
  ∃ hv', Dev B w' g gs hv' D' ∧ Fr (foot g gs hv) w w' ∧ ∀ k, hv'.ownBlock = some k → hv.ownBlock = some k ∨ w.heap.size ≤ k

/-- What a call makes of the document's device. -/
def RTo (B : Nat) (w : World) (g : Nat) (h : RH) (Q' : RS) (w' : World) : Prop :=
  ∃ h', RDev B w' g h' Q' ∧ Fr (rfoot g h) w w' ∧ ∀ k, rfoot g h' k → rfoot g h k ∨ w.heap.size ≤ k

section
variable {B : Nat} {w w' : World} {g gs : Nat} {hv : Value} {D : DS} {h : RH} {Q : RS}

theorem DTo.same (d : Dev B w g gs hv D) : DTo B w g gs hv D w := ⟨hv, d, Fr.refl _ _, fun _ e => Or.inl e⟩
theorem DTo.of (d : Dev B w' g gs hv D) (f : Fr (foot g gs hv) w w') : DTo B w g gs hv D w' := ⟨hv, d, f, fun _ e => Or.inl e⟩
theorem DTo.nil (d : Dev B w' g gs (.slice none 0 0) D) (f : Fr (foot g gs hv) w w') : DTo B w g gs hv D w' := ⟨_, d, f, fun k e => by simp [Value.ownBlock] at e⟩
theorem RTo.same (d : RDev B w g h Q) : RTo B w g h Q w := ⟨h, d, Fr.refl _ _, fun _ e => Or.inl e⟩
theorem RTo.of (d : RDev B w' g h Q) (f : Fr (rfoot g h) w w') : RTo B w g h Q w' := ⟨h, d, f, fun _ e => Or.inl e⟩
end

/-- Write of a device, whatever it is told. -/
theorem write_one (b : Nat) (D : DS) (hi : Inv b D) (hb : b ≤ 1000) (x : Int) (s : ByteArray) :
    ∃ (E : Int) (D' : DS), Inv (b + 1) D' ∧ ((¬ (0 ≤ x ∧ x < (D.n : Int)) ∧ E = 40 ∧ D' = D) ∨ ∃ i : Nat, x = (i : Int) ∧ i < D.n ∧ ((s.size ≠ 512 ∧ E = 2 ∧ D' = D) ∨ (s.size = 512 ∧ D.left = 0 ∧ E = 41 ∧ D' = D) ∨ (s.size = 512 ∧ D.left ≠ 0 ∧ D.next = 1 ∧ E = 42 ∧ D' = { D with next := 0 }) ∨ (s.size = 512 ∧ D.left ≠ 0 ∧ D.next ≠ 1 ∧ E = 0 ∧ D' = D.wrote i s))) ∧
      ∀ B w g gs hv, Dev B w g gs hv D → B ≤ w.heap.size → Calls Try.prog 11 #[.pointer (some ⟨g, 0, none⟩), .int .i64 x, .string s] w fun e w' => e = .returned (.int .i64 E) ∧ DTo B w g gs hv D' w' := by
  have h1 := hi.mono (Nat.le_succ b)
  obtain ⟨o0, o1⟩ := hi.ops
  obtain ⟨l0, l1⟩ := hi.left
  obtain ⟨n0, n1⟩ := hi.next
  have len := hi.len
  by_cases hx : 0 ≤ x ∧ x < (D.n : Int)
  · obtain ⟨i, rfl⟩ : ∃ i : Nat, x = (i : Int) := ⟨x.toNat, by omega⟩
    have hin : i < D.n := by omega
    by_cases hs : s.size = 512
    · by_cases hl : D.left = 0
      · refine ⟨41, D, h1, Or.inr ⟨i, rfl, hin, Or.inr (Or.inl ⟨hs, hl, rfl, rfl⟩)⟩, fun B w g gs hv d _ => (write_down d i hin s hs hl).mono ?_⟩
        rintro e w' ⟨rfl, rfl⟩
        exact ⟨rfl, .same d⟩
      · by_cases hn : D.next = 1
        · refine ⟨42, _, hi.broken.mono (Nat.le_succ b), Or.inr ⟨i, rfl, hin, Or.inr (Or.inr (Or.inl ⟨hs, hl, hn, rfl, rfl⟩))⟩, fun B w g gs hv d _ => (write_broken d i hin s hs hl hn).mono ?_⟩
          rintro e w' ⟨rfl, d', f⟩
          exact ⟨rfl, .of d' f⟩
        · refine ⟨0, _, hi.wrote i s hin hs, Or.inr ⟨i, rfl, hin, Or.inr (Or.inr (Or.inr ⟨hs, hl, hn, rfl, rfl⟩))⟩, fun B w g gs hv d hB => (write_ok d i hin s hs hl hn hB (by omega) (by omega) (by omega) (by omega)).mono ?_⟩
          rintro e w' ⟨rfl, hv', d', f, gr⟩
          exact ⟨rfl, hv', d', f, gr⟩
    · refine ⟨2, D, h1, Or.inr ⟨i, rfl, hin, Or.inl ⟨hs, rfl, rfl⟩⟩, fun B w g gs hv d _ => (write_long d i hin s hs).mono ?_⟩
      rintro e w' ⟨rfl, rfl⟩
      exact ⟨rfl, .same d⟩
  · refine ⟨40, D, h1, Or.inl ⟨hx, rfl, rfl⟩, fun B w g gs hv d _ => (write_place d x s hx).mono ?_⟩
    rintro e w' ⟨rfl, rfl⟩
    exact ⟨rfl, .same d⟩

theorem Rel.bounds {b : Nat} {D : DS} {Q : RS} (hr : Rel D Q) (hi : Inv b D) (hb : b ≤ 1000) :
    (0 ≤ Q.ops ∧ Q.ops ≤ 1000000) ∧ (Q.armed = true → -1000000 ≤ Q.left ∧ Q.left ≤ 9223372036854775807) ∧ (0 ≤ Q.refuse ∧ Q.refuse ≤ 9223372036854775807) ∧ Q.held.length ≤ 1000000 ∧ Q.n ≤ 8192 := by
  obtain ⟨o0, o1⟩ := hi.ops
  obtain ⟨l0, l1⟩ := hi.left
  obtain ⟨n0, n1⟩ := hi.next
  have len := hi.len
  have := hi.n
  refine ⟨by rw [← hr.ops]; omega, fun a => ?_, ?_, by rw [← hr.held]; omega, by rw [← hr.n]; omega⟩
  · rcases hr.arm with ⟨a', _⟩ | ⟨_, l, m⟩
    · rw [a] at a'; cases a'
    · omega
  · rcases hr.ref with ⟨a, _⟩ | ⟨a, l⟩ <;> omega

/-- Write of both. -/
theorem write_both (b : Nat) (D : DS) (Q : RS) (hi : Inv b D) (hr : Rel D Q) (hb : b ≤ 1000) (x : Int) (s : ByteArray) :
    ∃ (E : Int) (D' : DS) (Q' : RS), Inv (b + 1) D' ∧ Rel D' Q' ∧
      (∀ B w g gs hv, Dev B w g gs hv D → B ≤ w.heap.size → Calls Try.prog 11 #[.pointer (some ⟨g, 0, none⟩), .int .i64 x, .string s] w fun e w' => e = .returned (.int .i64 E) ∧ DTo B w g gs hv D' w') ∧
      (∀ B w g h, RDev B w g h Q → B ≤ w.heap.size → Calls Try.prog 13 #[.pointer (some ⟨g, 0, none⟩), .int .i64 x, .string s] w fun e w' => e = .returned (.int .i64 E) ∧ RTo B w g h Q' w') := by
  obtain ⟨E, D', hi', hcase, cD⟩ := write_one b D hi hb x s
  obtain ⟨q1, q2, q3, q4, q5⟩ := hr.bounds hi hb
  have hdn := hr.down
  refine ⟨E, D', ?_⟩
  rcases hcase with ⟨hx, rfl, rfl⟩ | ⟨i, rfl, hin, hc⟩
  · refine ⟨Q, hi', hr, cD, fun B w g h r _ => (rwrite_place r x s (by rw [← hr.n]; exact hx)).mono ?_⟩
    rintro e w' ⟨rfl, rfl⟩
    exact ⟨rfl, .same r⟩
  · have hin' : i < Q.n := by rw [← hr.n]; exact hin
    rcases hc with ⟨hs, rfl, rfl⟩ | ⟨hs, hl, rfl, rfl⟩ | ⟨hs, hl, hn, rfl, rfl⟩ | ⟨hs, hl, hn, rfl, rfl⟩
    · refine ⟨Q, hi', hr, cD, fun B w g h r _ => (rwrite_long r i hin' s hs).mono ?_⟩
      rintro e w' ⟨rfl, rfl⟩
      exact ⟨rfl, .same r⟩
    · rw [hl] at hdn
      refine ⟨Q, hi', hr, cD, fun B w g h r _ => (rwrite_down r i hin' s hs hdn.symm).mono ?_⟩
      rintro e w' ⟨rfl, rfl⟩
      exact ⟨rfl, .same r⟩
    · rw [show (D.left == 0) = false by simpa using hl] at hdn
      have hq : Q.refuse = 1 := by rcases hr.ref with ⟨a, l⟩ | ⟨a, l⟩ <;> omega
      refine ⟨_, hi', hr.broken, cD, fun B w g h r _ => (rwrite_broken r i hin' s hs hdn.symm hq).mono ?_⟩
      rintro e w' ⟨rfl, r', f⟩
      exact ⟨rfl, .of r' f⟩
    · rw [show (D.left == 0) = false by simpa using hl] at hdn
      have hq : Q.refuse ≠ 1 := by rcases hr.ref with ⟨a, l⟩ | ⟨a, l⟩ <;> omega
      refine ⟨_, hi', hr.wrote i s hl hn, cD, fun B w g h r hB => (rwrite_ok r i hin' s hs hdn.symm hq hB q1 q2 q3 q4).mono ?_⟩
      rintro e w' ⟨rfl, h', r', f, gr⟩
      exact ⟨rfl, h', r', f, gr⟩

/-- Flush of a device. -/
theorem flush_one (b : Nat) (D : DS) (hi : Inv b D) (hb : b ≤ 1000) :
    ∃ (E : Int) (D' : DS), Inv (b + 1) D' ∧ ((D.left = 0 ∧ E = 41 ∧ D' = D) ∨ (D.left ≠ 0 ∧ E = 0 ∧ D' = D.flushed)) ∧
      ∀ B w g gs hv, Dev B w g gs hv D → Calls Try.prog 14 #[.pointer (some ⟨g, 0, none⟩)] w fun e w' => e = .returned (.int .i64 E) ∧ DTo B w g gs hv D' w' := by
  obtain ⟨o0, o1⟩ := hi.ops
  obtain ⟨l0, l1⟩ := hi.left
  have len := hi.len
  by_cases hl : D.left = 0
  · refine ⟨41, D, hi.mono (Nat.le_succ b), Or.inl ⟨hl, rfl, rfl⟩, fun B w g gs hv d => (flush_down d hl).mono ?_⟩
    rintro e w' ⟨rfl, rfl⟩
    exact ⟨rfl, .same d⟩
  · refine ⟨0, _, hi.flushed, Or.inr ⟨hl, rfl, rfl⟩, fun B w g gs hv d => (flush_ok d hl (fun p hp => (hi.held p hp).1) (by omega) (by omega) (by omega)).mono ?_⟩
    rintro e w' ⟨rfl, d', f⟩
    exact ⟨rfl, .nil d' f⟩

theorem flush_both (b : Nat) (D : DS) (Q : RS) (hi : Inv b D) (hr : Rel D Q) (hb : b ≤ 1000) :
    ∃ (E : Int) (D' : DS) (Q' : RS), Inv (b + 1) D' ∧ Rel D' Q' ∧
      (∀ B w g gs hv, Dev B w g gs hv D → Calls Try.prog 14 #[.pointer (some ⟨g, 0, none⟩)] w fun e w' => e = .returned (.int .i64 E) ∧ DTo B w g gs hv D' w') ∧
      (∀ B w g h, RDev B w g h Q → B ≤ w.heap.size → Calls Try.prog 15 #[.pointer (some ⟨g, 0, none⟩)] w fun e w' => e = .returned (.int .i64 E) ∧ RTo B w g h Q' w') := by
  obtain ⟨E, D', hi', hc, cD⟩ := flush_one b D hi hb
  obtain ⟨q1, q2, q3, q4, q5⟩ := hr.bounds hi hb
  have hdn := hr.down
  refine ⟨E, D', ?_⟩
  rcases hc with ⟨hl, rfl, rfl⟩ | ⟨hl, rfl, rfl⟩
  · rw [hl] at hdn
    refine ⟨Q, hi', hr, cD, fun B w g h r _ => (rflush_down r hdn.symm).mono ?_⟩
    rintro e w' ⟨rfl, rfl⟩
    exact ⟨rfl, .same r⟩
  · rw [show (D.left == 0) = false by simpa using hl] at hdn
    refine ⟨_, hi', hr.flushed hi hl, cD, fun B w g h r hB => (rflush_ok r hdn.symm hB q5 q1 q2).mono ?_⟩
    rintro e w' ⟨rfl, h', r', f, gr⟩
    exact ⟨rfl, h', r', f, gr⟩

/-- Read of a device. -/
theorem read_one (b : Nat) (D : DS) (hi : Inv b D) (x : Int) :
    ∃ (T : ByteArray) (E : Int), ((¬ (0 ≤ x ∧ x < (D.n : Int)) ∧ T = ⟨#[]⟩ ∧ E = 40) ∨ ∃ i : Nat, x = (i : Int) ∧ i < D.n ∧ ((D.left = 0 ∧ T = ⟨#[]⟩ ∧ E = 41) ∨ (D.left ≠ 0 ∧ T = D.seen i ∧ E = 0))) ∧
      ∀ B w g gs hv, Dev B w g gs hv D → Calls Try.prog 23 #[.pointer (some ⟨g, 0, none⟩), .int .i64 x] w fun e w' => e = .returned (.tuple #[.string T, .int .i64 E]) ∧ Below w.heap.size w w' := by
  by_cases hx : 0 ≤ x ∧ x < (D.n : Int)
  · obtain ⟨i, rfl⟩ : ∃ i : Nat, x = (i : Int) := ⟨x.toNat, by omega⟩
    have hin : i < D.n := by omega
    by_cases hl : D.left = 0
    · refine ⟨_, 41, Or.inr ⟨i, rfl, hin, Or.inl ⟨hl, rfl, rfl⟩⟩, fun B w g gs hv d => (read_down d i hin hl).mono ?_⟩
      rintro e w' ⟨rfl, rfl⟩
      exact ⟨rfl, Below.refl _ _⟩
    · exact ⟨_, 0, Or.inr ⟨i, rfl, hin, Or.inr ⟨hl, rfl, rfl⟩⟩, fun B w g gs hv d => read_ok d i hin hl _ rfl (hi.seenSize i hin)⟩
  · refine ⟨_, 40, Or.inl ⟨hx, rfl, rfl⟩, fun B w g gs hv d => (read_place d x hx).mono ?_⟩
    rintro e w' ⟨rfl, rfl⟩
    exact ⟨rfl, Below.refl _ _⟩

theorem read_both (b : Nat) (D : DS) (Q : RS) (hi : Inv b D) (hr : Rel D Q) (x : Int) :
    ∃ (T : ByteArray) (E : Int),
      (∀ B w g gs hv, Dev B w g gs hv D → Calls Try.prog 23 #[.pointer (some ⟨g, 0, none⟩), .int .i64 x] w fun e w' => e = .returned (.tuple #[.string T, .int .i64 E]) ∧ Below w.heap.size w w') ∧
      (∀ B w g h, RDev B w g h Q → Calls Try.prog 24 #[.pointer (some ⟨g, 0, none⟩), .int .i64 x] w fun e w' => e = .returned (.tuple #[.string T, .int .i64 E]) ∧ w' = w) := by
  obtain ⟨T, E, hc, cD⟩ := read_one b D hi x
  refine ⟨T, E, cD, ?_⟩
  have hdn := hr.down
  rcases hc with ⟨hx, rfl, rfl⟩ | ⟨i, rfl, hin, hc⟩
  · exact fun B w g h r => rread_place r x (by rw [← hr.n]; exact hx)
  · have hin' : i < Q.n := by rw [← hr.n]; exact hin
    rcases hc with ⟨hl, rfl, rfl⟩ | ⟨hl, rfl, rfl⟩
    · rw [hl] at hdn
      exact fun B w g h r => rread_down r i hin' hdn.symm
    · rw [show (D.left == 0) = false by simpa using hl] at hdn
      exact fun B w g h r => rread_ok r i hin' hdn.symm _ (by rw [hr.seen])

/-- Both devices, beside all that was there ahead of the call. -/
structure Two (W w : World) (g gs : Nat) (hv : Value) (D : DS) (q : Nat) (h : RH) (Q : RS) : Prop where
  dev : Dev W.heap.size w g gs hv D
  ref : RDev W.heap.size w q h Q
  apart : ∀ k, foot g gs hv k → ¬ rfoot q h k
  bel : Below W.heap.size W w

section
variable {W w w' : World} {g gs : Nat} {hv : Value} {D D' : DS} {q : Nat} {h : RH} {Q Q' : RS}

theorem Two.below (t : Two W w g gs hv D q h Q) (hb : Below w.heap.size w w') : Two W w' g gs hv D q h Q :=
  ⟨t.dev.below hb, t.ref.below hb, t.apart, below2 t.bel hb⟩

/-- A block that is neither device's. -/
def Else (w : World) (g gs : Nat) (hv : Value) (q : Nat) (h : RH) (k : Nat) : Prop := k < w.heap.size ∧ ¬ foot g gs hv k ∧ ¬ rfoot q h k

theorem Two.stepD (t : Two W w g gs hv D q h Q) (d : DTo W.heap.size w g gs hv D' w') : ∃ hv', Two W w' g gs hv' D' q h Q ∧ ∀ k, Else w g gs hv q h k → Else w' g gs hv' q h k ∧ w'.heap[k]? = w.heap[k]? := by
  obtain ⟨hv', d', f, gr⟩ := d
  have hsub : ∀ k, foot g gs hv' k → foot g gs hv k ∨ w.heap.size ≤ k := by
    rintro k (r | r | r)
    · exact Or.inl (Or.inl r)
    · exact Or.inl (Or.inr (Or.inl r))
    · rcases gr k r with p | p
      · exact Or.inl (Or.inr (Or.inr p))
      · exact Or.inr p
  refine ⟨hv', ⟨d', t.ref.apart f (fun k r p => t.apart k p r), fun k p r => ?_, f.belowD t.bel t.dev (Nat.le_refl _)⟩, fun k e => ⟨⟨Nat.lt_of_lt_of_le e.1 f.size, fun p => ?_, e.2.2⟩, f.block k e.1 e.2.1⟩⟩
  · rcases hsub k p with p' | p'
    · exact t.apart k p' r
    · have := t.ref.lt k r
      omega
  · rcases hsub k p with p' | p'
    · exact e.2.1 p'
    · have := e.1
      omega

theorem Two.stepR (t : Two W w g gs hv D q h Q) (d : RTo W.heap.size w q h Q' w') : ∃ h', Two W w' g gs hv D q h' Q' ∧ ∀ k, Else w g gs hv q h k → Else w' g gs hv q h' k ∧ w'.heap[k]? = w.heap[k]? := by
  obtain ⟨h', d', f, gr⟩ := d
  refine ⟨h', ⟨t.dev.apart f t.apart, d', fun k p r => ?_, f.below t.bel t.bel.size (fun k hk => t.ref.from k hk)⟩, fun k e => ⟨⟨Nat.lt_of_lt_of_le e.1 f.size, e.2.1, fun p => ?_⟩, f.block k e.1 e.2.2⟩⟩
  · rcases gr k r with p' | p'
    · exact t.apart k p p'
    · have := t.dev.lt k p
      omega
  · rcases gr k p with p' | p'
    · exact e.2.2 p'
    · have := e.1
      omega

theorem Two.fresh (t : Two W w g gs hv D q h Q) (o : Obj) : Two W (w.alloc o) g gs hv D q h Q ∧ Else (w.alloc o) g gs hv q h w.heap.size :=
  ⟨t.below (below_alloc1 w o), by simp, fun p => by have := t.dev.lt _ p; omega, fun p => by have := t.ref.lt _ p; omega⟩

theorem Else.below {k : Nat} (e : Else w g gs hv q h k) (hb : Below w.heap.size w w') : Else w' g gs hv q h k ∧ w'.heap[k]? = w.heap[k]? := ⟨⟨Nat.lt_of_lt_of_le e.1 hb.size, e.2⟩, hb.block k e.1⟩
end

end Go.Proofs.Ythodnhcnaeajnaa

/- hedgerowkeep.Mod; Write of a sector, by ways. -/
import Derived.Test.YthodnhcnaeajnaaDCopy
import Derived.Deep.RegionHeld3
namespace Go.Proofs.Ythodnhcnaeajnaa
open Go.RowKit

theorem tmod_mod (k : Int) (n : Nat) (hn : 1 ≤ n) : ∃ r : Nat, r < n ∧ (k.tmod n + n).tmod n = (r : Int) ∧ -(n : Int) < k.tmod n ∧ k.tmod n < n := by
  have h1 : k.tmod n < n := Int.tmod_lt_of_pos _ (by omega)
  have h2 : -(n : Int) < k.tmod n := by
    have := Int.lt_tmod_of_pos k (b := (n : Int)) (by omega)
    exact this
  refine ⟨((k.tmod n + n).tmod n).toNat, ?_, ?_, h2, h1⟩
  · have h3 : (k.tmod n + n).tmod n < n := Int.tmod_lt_of_pos _ (by omega)
    have h4 : 0 ≤ (k.tmod n + n).tmod n := Int.tmod_nonneg _ (by omega)
    omega
  · have h4 : 0 ≤ (k.tmod n + n).tmod n := Int.tmod_nonneg _ (by omega)
    omega

set_option maxHeartbeats 400000 in
theorem mod_any (k : Int) (n : Nat) (w : World) (_h0 : -9223372036854775808 ≤ k) (_h1 : k ≤ 9223372036854775807) (hn : 1 ≤ n) (hn2 : n ≤ 1000) :
    Calls Try.prog 33 #[.int .i64 k, .int .i64 (n : Int)] w fun e w' => ∃ r : Nat, e = .returned (.int .i64 (r : Int)) ∧ r < n ∧ w' = w := by
  obtain ⟨r, hr, he, b1, b2⟩ := tmod_mod k n hn
  have hz : ((n : Int) == 0) = false := by rw [beq_eq_false_iff_ne]; omega
  have hm1 : ((n : Int) == -1) = false := by rw [beq_eq_false_iff_ne]; omega
  have hlt : decide ((n : Int) < 1) = false := by simp; omega
  generalize hq : k.tmod (n : Int) = q at *
  go_enter Try.func33, Try.ntmps33
  go_wp2_with fail
  go_ret
  exact ⟨r, rfl, hr, rfl⟩

/-- Write of a whole sector that there is. -/
theorem write_blk (b : Nat) (D : DS) (hi : Inv b D) (hb : b ≤ 1000) (i : Nat) (hin : i < D.n) (s : ByteArray) (hs : s.size = 512) :
    ∃ (E : Int) (D' : DS), Inv (b + 1) D' ∧ ((D.left = 0 ∧ E = 41 ∧ D' = D) ∨ (D.left ≠ 0 ∧ D.next = 1 ∧ E = 42 ∧ D' = { D with next := 0 }) ∨ (D.left ≠ 0 ∧ D.next ≠ 1 ∧ E = 0 ∧ D' = D.wrote i s)) ∧
      ∀ B w g gs hv, Dev B w g gs hv D → B ≤ w.heap.size → Calls Try.prog 11 #[.pointer (some ⟨g, 0, none⟩), .int .i64 (i : Int), .string s] w fun e w' => e = .returned (.int .i64 E) ∧ DTo B w g gs hv D' w' := by
  obtain ⟨E, D', h1, hc, c⟩ := write_one b D hi hb (i : Int) s
  refine ⟨E, D', h1, ?_, c⟩
  rcases hc with ⟨hx, _⟩ | ⟨j, hj, _, hc⟩
  · exact absurd ⟨by omega, by omega⟩ hx
  · have : i = j := by omega
    subst this
    rcases hc with ⟨h, _⟩ | ⟨_, h⟩ | ⟨_, h⟩ | ⟨_, h⟩
    · exact absurd hs h
    · exact Or.inl h
    · exact Or.inr (Or.inl h)
    · exact Or.inr (Or.inr h)

/-- A device, beside all that was there. -/
structure One (W w : World) (g gs : Nat) (hv : Value) (D : DS) : Prop where
  dev : Dev W.heap.size w g gs hv D
  bel : Below W.heap.size W w

section
variable {W w w' : World} {g gs : Nat} {hv : Value} {D D' : DS}
theorem One.below (t : One W w g gs hv D) (hb : Below w.heap.size w w') : One W w' g gs hv D := ⟨t.dev.below hb, below2 t.bel hb⟩
theorem One.drew (t : One W w g gs hv D) : One W w.drew g gs hv D := ⟨t.dev.kept (fun _ _ => rfl), t.bel.drew⟩

/-- A block that is not the device's. -/
def Els (w : World) (g gs : Nat) (hv : Value) (k : Nat) : Prop := k < w.heap.size ∧ ¬ foot g gs hv k

theorem One.step (t : One W w g gs hv D) (d : DTo W.heap.size w g gs hv D' w') : ∃ hv', One W w' g gs hv' D' ∧ ∀ k, Els w g gs hv k → Els w' g gs hv' k ∧ w'.heap[k]? = w.heap[k]? := by
  obtain ⟨hv', d', f, gr⟩ := d
  refine ⟨hv', ⟨d', f.belowD t.bel t.dev (Nat.le_refl _)⟩, fun k e => ⟨⟨Nat.lt_of_lt_of_le e.1 f.size, fun p => ?_⟩, f.block k e.1 e.2⟩⟩
  rcases p with r | r | r
  · exact e.2 (Or.inl r)
  · exact e.2 (Or.inr (Or.inl r))
  · rcases gr k r with q | q
    · exact e.2 (Or.inr (Or.inr q))
    · have := e.1
      omega

theorem One.fresh (t : One W w g gs hv D) (o : Obj) : One W (w.alloc o) g gs hv D ∧ Els (w.alloc o) g gs hv w.heap.size :=
  ⟨t.below (below_alloc1 w o), by simp, fun p => by have := t.dev.lt _ p; omega⟩

theorem Els.below {k : Nat} (e : Els w g gs hv k) (hb : Below w.heap.size w w') : Els w' g gs hv k ∧ w'.heap[k]? = w.heap[k]? := ⟨⟨Nat.lt_of_lt_of_le e.1 hb.size, e.2⟩, hb.block k e.1⟩

/-- A store beside the device. -/
theorem One.store (t : One W w g gs hv D) {k : Nat} (e : Els w g gs hv k) (hk : W.heap.size ≤ k) (o : Nat) (u : Value) : One W (w.setCell ⟨k, o, none⟩ u) g gs hv D :=
  ⟨t.dev.kept (fun j hj => Below.heap_setCell _ _ _ _ (by rintro rfl; exact e.2 hj)), t.bel.setCell hk u⟩
theorem Els.store {k : Nat} (e : Els w g gs hv k) (a : Addr) (u : Value) : Els (w.setCell a u) g gs hv k := ⟨by simpa using e.1, e.2⟩
end

end Go.Proofs.Ythodnhcnaeajnaa

/- DevPlays: its helpers. -/
import Derived.Test.YthodnhcnaeajnaaDBoth
import Derived.Test.YthodnhcnaeajnaaDOpen
namespace Go.Proofs.Ythodnhcnaeajnaa
open Go.RowKit

/-- What a step writes. -/
def St.data (p : St) : ByteArray := if p.n = 1 then ba [115, 104, 111, 114, 116] else blk p.fill

set_option maxHeartbeats 400000 in
set_option maxRecDepth 100000 in
theorem data_any (p : St) (S : ByteArray) (hS : p.data = S) (w : World) :
    Calls Try.prog 12 #[.agg #[.int .i64 p.kind, .int .i64 p.pos, .int .i64 p.n, .int .u8 (p.fill.toNat : Int), .slice p.ka p.keep.length p.kc]] w fun e w' => e = .returned (.string S) ∧ Below w.heap.size w w' := by
  subst hS
  unfold St.data
  by_cases h1 : p.n = 1
  · rw [if_pos h1, h1]
    go_enter Try.func12, Try.ntmps12
    go_wp2_with fail
    go_ret
    exact ⟨rfl, below_alloc1 _ _⟩
  · rw [if_neg h1]
    have d1 : (p.n == 1) = false := by simpa using h1
    clear h1
    go_enter Try.func12, Try.ntmps12
    go_wp2_with fail
    refine (block_any _ p.fill rfl _).mono ?_
    rintro e w1 ⟨rfl, b1⟩
    go_wp2_with fail
    go_ret
    exact ⟨rfl, below2 (below_alloc1 _ _) b1⟩

set_option maxHeartbeats 800000 in
set_option maxRecDepth 100000 in
theorem ints_any (L : List Int) (a a' : Option Addr) (c c' : Nat) (w : World) (h : SlI w a L) (h' : SlI w a' L) (hl : L.length ≤ 1000000) :
    Calls Try.prog 20 #[.slice a L.length c, .slice a' L.length c'] w fun e w' => e = .returned (.bool true) ∧ Below w.heap.size w w' := by
  go_enter Try.func20, Try.ntmps20
  go_wp2_with fail
  go_loopw [5] (fun si wr => ∃ k : Nat, k ≤ L.length ∧ si = .int .i64 (k : Int) ∧ Below w.heap.size w wr) (fun si _ => L.length - (intOf si).toNat)
  case atStart => exact ⟨0, by omega, rfl, Below.refl _ _⟩
  case round =>
    obtain ⟨k, hk, rfl, hb⟩ := hrel
    by_cases hlt : k < L.length
    · have hx : L[k]? = some L[k] := by simp [hlt]
      generalize L[k] = x at hx
      rcases h with h | ⟨b, off, rfl, hlb, hr⟩
      · rw [h] at hlt; simp at hlt
      rcases h' with h' | ⟨b', off', rfl, hlb', hr'⟩
      · rw [h'] at hlt; simp at hlt
      have c1 := (hb.cell (p := ⟨b, off + k, none⟩) hlb).trans (hr k x hx)
      have c2 := (hb.cell (p := ⟨b', off' + k, none⟩) hlb').trans (hr' k x hx)
      have hlt2 : (k : Int) < (L.length : Int) := by omega
      clear hr hr' hx
      go_wp2_with fail
      go_region
      go_wp2_with fail
      go_roundw
      case rel => exact ⟨k + 1, by omega, by go_num, hb.drew⟩
      case measure => simp [intOf]; omega
    · obtain rfl : k = L.length := by omega
      go_wp2_with fail
      go_ret
      exact ⟨rfl, hb⟩

/-- All that is told of both devices, the same. -/
theorem tells_both (b : Nat) (D : DS) (Q : RS) (hi : Inv b D) (hr : Rel D Q) (x : Int) :
    ∃ (T : ByteArray) (E l o n : Int) (dn : Bool),
      (∀ B w g gs hv, Dev B w g gs hv D → Calls Try.prog 23 #[.pointer (some ⟨g, 0, none⟩), .int .i64 x] w fun e w' => e = .returned (.tuple #[.string T, .int .i64 E]) ∧ Below w.heap.size w w') ∧
      (∀ B w g h, RDev B w g h Q → Calls Try.prog 24 #[.pointer (some ⟨g, 0, none⟩), .int .i64 x] w fun e w' => e = .returned (.tuple #[.string T, .int .i64 E]) ∧ w' = w) ∧
      (∀ B w g gs hv, Dev B w g gs hv D → Calls Try.prog 25 #[.pointer (some ⟨g, 0, none⟩)] w fun e w' => e = .returned (.int .i64 l) ∧ w' = w) ∧
      (∀ B w g h, RDev B w g h Q → Calls Try.prog 26 #[.pointer (some ⟨g, 0, none⟩)] w fun e w' => e = .returned (.int .i64 l) ∧ w' = w) ∧
      (∀ B w g gs hv, Dev B w g gs hv D → Calls Try.prog 27 #[.pointer (some ⟨g, 0, none⟩)] w fun e w' => e = .returned (.int .i64 o) ∧ w' = w) ∧
      (∀ B w g h, RDev B w g h Q → Calls Try.prog 28 #[.pointer (some ⟨g, 0, none⟩)] w fun e w' => e = .returned (.int .i64 o) ∧ w' = w) ∧
      (∀ B w g gs hv, Dev B w g gs hv D → Calls Try.prog 29 #[.pointer (some ⟨g, 0, none⟩)] w fun e w' => e = .returned (.bool dn) ∧ w' = w) ∧
      (∀ B w g h, RDev B w g h Q → Calls Try.prog 30 #[.pointer (some ⟨g, 0, none⟩)] w fun e w' => e = .returned (.bool dn) ∧ w' = w) ∧
      (∀ B w g gs hv, Dev B w g gs hv D → Calls Try.prog 31 #[.pointer (some ⟨g, 0, none⟩)] w fun e w' => e = .returned (.int .i64 n) ∧ w' = w) ∧
      (∀ B w g h, RDev B w g h Q → Calls Try.prog 32 #[.pointer (some ⟨g, 0, none⟩)] w fun e w' => e = .returned (.int .i64 n) ∧ w' = w) := by
  obtain ⟨T, E, c1, c2⟩ := read_both b D Q hi hr x
  refine ⟨T, E, _, _, _, _, c1, c2, fun B w g gs hv d => held_any d, fun B w g h r => ?_, fun B w g gs hv d => ops_any d, fun B w g h r => ?_, fun B w g gs hv d => down_any d, fun B w g h r => ?_, fun B w g gs hv d => sectors_any d, fun B w g h r => ?_⟩
  · rw [hr.held]; exact rheld_any r
  · rw [hr.ops]; exact rops_any r
  · rw [hr.down]; exact rdown_any r
  · rw [hr.n]; exact rsectors_any r

theorem RDev.base {B B' : Nat} {w : World} {g : Nat} {h : RH} {Q : RS} (r : RDev B w g h Q) (hb : B' ≤ B) : RDev B' w g h Q :=
  ⟨r.dev, owns_base r.seen hb, owns_base r.safe hb, owns_base r.held hb, Nat.le_trans hb r.gB, r.ne⟩

/-- Both are new. -/
theorem two_new {W w1 w2 : World} {g gs q n : Nat} {h : RH} (d : Dev W.heap.size w1 g gs (.slice none 0 0) (D0 n)) (k1 : Below W.heap.size W w1) (r : RDev w1.heap.size w2 q h (R0 n)) (k2 : Below w1.heap.size w1 w2) :
    Two W w2 g gs (.slice none 0 0) (D0 n) q h (R0 n) :=
  ⟨d.below k2, r.base k1.size, fun k p s => by have := d.lt k p; have := r.from k s; omega, below2 k1 k2⟩

end Go.Proofs.Ythodnhcnaeajnaa

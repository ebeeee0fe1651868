/- sectorsOf, areaOf, sector, fit, Room. -/
import Derived.Test.YtlapgalefpenbaaLThrow
namespace Go.Proofs.Ytlapgalefpenbaa
open Go.RowKit

/-- How many sectors an area has. -/
def areaN (n : Nat) : Nat := (n - 4) / 2

set_option maxHeartbeats 400000 in
theorem sectorsOf_any (t : ByteArray) (ht : t.size ≤ 1000000000) (w : World) : Calls Try.prog 33 #[.string t] w fun e w' => e = .returned (.int .i64 (secs t : Int)) ∧ w' = w := by
  have hq : (t.size : Int).tdiv 500 = ((t.size / 500 : Nat) : Int) := by rw [Int.tdiv_eq_ediv_of_nonneg (by omega)]; omega
  go_enter Try.func33, Try.ntmps33
  go_wp2_with fail
  go_ret
  exact ⟨by unfold secs; first | rfl | (simp [go_sem]; omega), rfl⟩

set_option maxHeartbeats 400000 in
theorem areaOf_any {B : Nat} {w : World} {g gs : Nat} {hv : Value} {D : DS} (d : Dev B w g gs hv D) (h8 : 8 ≤ D.n) (hn : D.n ≤ 8192) (A : Nat) (hA : A = areaN D.n) :
    Calls Try.prog 34 #[.pointer (some ⟨g, 0, none⟩)] w fun e w' => e = .returned (.int .i64 (A : Int)) ∧ w' = w := by
  have hq : ((D.n : Int) - 4).tdiv 2 = (A : Int) := by rw [Int.tdiv_eq_ediv_of_nonneg (by omega), hA]; unfold areaN; omega
  have hb : A ≤ 4096 := by rw [hA]; unfold areaN; omega
  clear hA
  go_enter Try.func34, Try.ntmps34
  go_wp2_with fail
  refine (sectors_any d).mono ?_
  rintro e w1 ⟨rfl, h1⟩
  rw [h1]
  go_wp2_with fail
  go_ret
  exact ⟨rfl, rfl⟩

set_option maxHeartbeats 400000 in
set_option maxRecDepth 100000 in
theorem sector_any {B : Nat} {w : World} {lb g gs : Nat} {hv : Value} {D : DS} (hc : w.cell? ⟨lb, 0, none⟩ = some (.pointer (some ⟨g, 0, none⟩))) (d : Dev B w g gs hv D) (h8 : 8 ≤ D.n) (hn : D.n ≤ 8192) (A : Nat) (hA : A = areaN D.n) (area i : Nat) (ha : area ≤ 1) (hi : i ≤ 8192) :
    Calls Try.prog 69 #[.pointer (some ⟨lb, 0, none⟩), .int .i64 (area : Int), .int .i64 (i : Int)] w fun e w' => e = .returned (.int .i64 ((3 + area * A + i : Nat) : Int)) ∧ w' = w := by
  have hb : A ≤ 4096 := by rw [hA]; unfold areaN; omega
  have cA := fun w d => areaOf_any (B := B) (w := w) (g := g) (gs := gs) (hv := hv) (D := D) d h8 hn A hA
  clear hA
  have e : area = 0 ∨ area = 1 := by omega
  rcases e with rfl | rfl
  · go_enter Try.func69, Try.ntmps69
    go_wp2_with fail
    refine (cA _ d).mono ?_
    rintro e w1 ⟨rfl, h1⟩
    rw [h1]
    go_wp2_with fail
    go_ret
    exact ⟨by simp, rfl⟩
  · go_enter Try.func69, Try.ntmps69
    go_wp2_with fail
    refine (cA _ d).mono ?_
    rintro e w1 ⟨rfl, h1⟩
    rw [h1]
    go_wp2_with fail
    go_ret
    exact ⟨by simp, rfl⟩

/-- A log, as its cells are. -/
structure LS where
  slot : Nat
  area : Nat
  used : Nat
  base : ByteArray
  recs : List ByteArray
  unfit : Bool

def lcells (g : Nat) (rv : Value) (S : LS) : Array Value := #[.pointer (some ⟨g, 0, none⟩), .int .i64 (S.slot : Int), .int .i64 (S.area : Int), .int .i64 (S.used : Int), .string S.base, rv, .bool S.unfit]

theorem lcell {w : World} {lb g : Nat} {rv : Value} {S : LS} (h : w.heap[lb]? = some (.cells (lcells g rv S) 81 (0, 0))) :
    w.cell? ⟨lb, 0, none⟩ = some (.pointer (some ⟨g, 0, none⟩)) ∧ w.cell? ⟨lb, 1, none⟩ = some (.int .i64 (S.slot : Int)) ∧ w.cell? ⟨lb, 2, none⟩ = some (.int .i64 (S.area : Int)) ∧ w.cell? ⟨lb, 3, none⟩ = some (.int .i64 (S.used : Int)) ∧
    w.cell? ⟨lb, 4, none⟩ = some (.string S.base) ∧ w.cell? ⟨lb, 5, none⟩ = some rv ∧ w.cell? ⟨lb, 6, none⟩ = some (.bool S.unfit) := by
  simp [World.cell?, h, lcells]

set_option maxHeartbeats 400000 in
theorem fit_nil (w : World) : Calls Try.prog 38 #[.pointer none] w fun e w' => e = .returned (.int .i64 1) ∧ w' = w := by
  go_enter Try.func38, Try.ntmps38
  go_wp2_with fail
  go_ret
  exact ⟨rfl, rfl⟩

set_option maxHeartbeats 400000 in
theorem fit_any {w : World} {lb : Nat} (u : Bool) (hc : w.cell? ⟨lb, 6, none⟩ = some (.bool u)) : Calls Try.prog 38 #[.pointer (some ⟨lb, 0, none⟩)] w fun e w' => e = .returned (.int .i64 (if u then 41 else 0)) ∧ w' = w := by
  cases u
  · go_enter Try.func38, Try.ntmps38
    go_wp2_with fail
    go_ret
    exact ⟨rfl, rfl⟩
  · go_enter Try.func38, Try.ntmps38
    go_wp2_with fail
    go_ret
    exact ⟨rfl, rfl⟩

set_option maxHeartbeats 400000 in
theorem room_nil (w : World) : Calls Try.prog 23 #[.pointer none] w fun e w' => e = .returned (.int .i64 0) ∧ w' = w := by
  go_enter Try.func23, Try.ntmps23
  go_wp2_with fail
  go_ret
  exact ⟨rfl, rfl⟩

set_option maxHeartbeats 400000 in
set_option maxRecDepth 100000 in
theorem room_any {B : Nat} {w : World} {lb g gs : Nat} {hv : Value} {D : DS} (d : Dev B w g gs hv D) (h8 : 8 ≤ D.n) (hn : D.n ≤ 8192) (A u : Nat) (hA : A = areaN D.n) (hu : u ≤ A) (c0 : w.cell? ⟨lb, 0, none⟩ = some (.pointer (some ⟨g, 0, none⟩))) (c3 : w.cell? ⟨lb, 3, none⟩ = some (.int .i64 (u : Int))) :
    Calls Try.prog 23 #[.pointer (some ⟨lb, 0, none⟩)] w fun e w' => e = .returned (.int .i64 ((A - u : Nat) : Int)) ∧ Below w.heap.size w w' := by
  have hb : A ≤ 4096 := by rw [hA]; unfold areaN; omega
  have cA := fun w d => areaOf_any (B := B) (w := w) (g := g) (gs := gs) (hv := hv) (D := D) d h8 hn A hA
  have dD : Dev B w.drew g gs hv D := d.kept (fun _ _ => rfl)
  have hw : IntKind.i64.wrap ((A : Int) - (u : Int)) = ((A - u : Nat) : Int) := by
    rw [show (A : Int) - (u : Int) = ((A - u : Nat) : Int) by omega]
    exact wrap_nat _ (by omega)
  obtain ⟨r, hr⟩ : ∃ r, r = A - u := ⟨_, rfl⟩
  rw [← hr] at hw ⊢
  clear hA hr hb
  go_enter Try.func23, Try.ntmps23
  go_wp2_with fail
  go_region_held3 (fun W => W.cell? ⟨lb, 0, none⟩ = some (.pointer (some ⟨g, 0, none⟩)) ∧ W.cell? ⟨lb, 3, none⟩ = some (.int .i64 (u : Int)))
    (first | exact ⟨c0, c3⟩ | go_keep)
    (first | (go_at_call 34; refine (cA _ dD).mono ?_; rintro e w1 ⟨rfl, h1⟩; rw [h1]))
  all_goals go_wp2_with fail
  all_goals go_ret
  all_goals exact ⟨rfl, below_drew w⟩

end Go.Proofs.Ytlapgalefpenbaa

/- The document's device: its calls, but New and Crash. -/
import Derived.Test.YtghocbaafdnddaaGreatRRef
import Derived.Laws.AppendOwnNone
namespace Go.Proofs.YtghocbaafdnddaaGreat
open Go.RowKit

theorem Tryz.info100 : (Tryz.prog.info? 100).map (fun i => (i.zero, i.size, i.bytes)) = some (some (.agg #[.int .i64 0, .string ⟨#[]⟩]), 2, 24) := by kernel_rfl
theorem Tryz.info9 : (Tryz.prog.info? 9).map (fun i => (i.zero, i.size, i.bytes)) = some (some (.string ⟨#[]⟩), 1, 16) := by kernel_rfl

def RS.down (Q : RS) : Bool := Q.armed && decide (Q.left ≤ 0)
def RS.counted (Q : RS) : RS := { Q with ops := Q.ops + 1, left := if Q.armed = true then Q.left - 1 else Q.left }

section
variable {B : Nat} {w : World} {g : Nat} {h : RH} {Q : RS}

set_option maxHeartbeats 400000 in
theorem rdown_any (r : RDev B w g h Q) : Calls Tryz.prog 69 #[.pointer (some ⟨g, 0, none⟩)] w fun e w' => e = .returned (.bool Q.down) ∧ w' = w := by
  obtain ⟨_, _, _, c3, _, c5, _⟩ := r.cell
  unfold RS.down
  cases ha : Q.armed with
  | false =>
    rw [ha] at c5
    go_enter Tryz.func69, Tryz.ntmps69
    go_wp2_with fail
    go_ret
    exact ⟨rfl, rfl⟩
  | true =>
    rw [ha] at c5
    go_enter Tryz.func69, Tryz.ntmps69
    go_wp2_with fail
    go_ret
    exact ⟨by simp, rfl⟩

set_option maxHeartbeats 400000 in
theorem rheld_any (r : RDev B w g h Q) : Calls Tryz.prog 38 #[.pointer (some ⟨g, 0, none⟩)] w fun e w' => e = .returned (.int .i64 (Q.held.length : Int)) ∧ w' = w := by
  obtain ⟨_, _, c2, _⟩ := r.cell
  obtain ⟨a, c, e⟩ := r.hvOf
  rw [e] at c2
  go_enter Tryz.func38, Tryz.ntmps38
  go_wp2_with fail
  go_ret
  exact ⟨rfl, rfl⟩

set_option maxHeartbeats 400000 in
theorem rops_any (r : RDev B w g h Q) : Calls Tryz.prog 36 #[.pointer (some ⟨g, 0, none⟩)] w fun e w' => e = .returned (.int .i64 Q.ops) ∧ w' = w := by
  obtain ⟨_, _, _, _, _, _, c6⟩ := r.cell
  go_enter Tryz.func36, Tryz.ntmps36
  go_wp2_with fail
  go_ret
  exact ⟨rfl, rfl⟩

set_option maxHeartbeats 400000 in
theorem rsectors_any (r : RDev B w g h Q) : Calls Tryz.prog 49 #[.pointer (some ⟨g, 0, none⟩)] w fun e w' => e = .returned (.int .i64 (Q.n : Int)) ∧ w' = w := by
  obtain ⟨c0, _⟩ := r.cell
  go_enter Tryz.func49, Tryz.ntmps49
  go_wp2_with fail
  go_ret
  exact ⟨rfl, rfl⟩

set_option maxHeartbeats 400000 in
theorem rarm_any (r : RDev B w g h Q) (x : Int) : Calls Tryz.prog 21 #[.pointer (some ⟨g, 0, none⟩), .int .i64 x] w fun e w' => e = .returned (.tuple #[]) ∧ RDev B w' g h { Q with armed := decide (0 ≤ x), left := x } ∧ Fr (rfoot g h) w w' := by
  obtain ⟨_, _, _, c3, _, c5, _⟩ := r.cell
  have f3 := r.free 3
  have f5 := r.free 5
  go_enter Tryz.func21, Tryz.ntmps21
  go_wp2_with fail
  go_end0
  exact ⟨rfl, (r.setArmed _).setLeft _, ((Fr.refl _ _).set (Or.inl (Or.inl rfl)) _).set (Or.inl (Or.inl rfl)) _⟩

set_option maxHeartbeats 400000 in
theorem rrefuse_any (r : RDev B w g h Q) (x y : Int) (hy : max x 0 = y) : Calls Tryz.prog 23 #[.pointer (some ⟨g, 0, none⟩), .int .i64 x] w fun e w' => e = .returned (.tuple #[]) ∧ RDev B w' g h { Q with refuse := y } ∧ Fr (rfoot g h) w w' := by
  subst hy
  obtain ⟨_, _, _, _, c4, _⟩ := r.cell
  have f4 := r.free 4
  go_enter Tryz.func23, Tryz.ntmps23
  go_wp2_with fail
  go_end0
  exact ⟨rfl, r.setRefuse _, (Fr.refl _ _).set (Or.inl (Or.inl rfl)) _⟩

set_option maxHeartbeats 400000 in
theorem rok_any (r : RDev B w g h Q) (b1 : 0 ≤ Q.ops ∧ Q.ops ≤ 1000000) (b2 : Q.armed = true → -1000000 ≤ Q.left ∧ Q.left ≤ 9223372036854775807) : Calls Tryz.prog 81 #[.pointer (some ⟨g, 0, none⟩)] w fun e w' => e = .returned (.tuple #[]) ∧ RDev B w' g h Q.counted ∧ Fr (rfoot g h) w w' := by
  obtain ⟨_, _, _, c3, _, c5, c6⟩ := r.cell
  have f6 := r.free 6
  have f3 := r.free 3
  unfold RS.counted
  obtain ⟨o0, o1⟩ := b1
  cases ha : Q.armed with
  | false =>
    rw [ha] at c5
    have hr := r.setOps (Q.ops + 1)
    rw [show ({ Q with ops := Q.ops + 1 } : RS) = { n := Q.n, seen := Q.seen, safe := Q.safe, held := Q.held, left := Q.left, refuse := Q.refuse, armed := false, ops := Q.ops + 1 } by rw [← ha]] at hr
    go_enter Tryz.func81, Tryz.ntmps81
    go_wp2_with fail
    go_end0
    exact ⟨rfl, by simpa using hr, (Fr.refl _ _).set (Or.inl (Or.inl rfl)) _⟩
  | true =>
    obtain ⟨l0, l1⟩ := b2 ha
    rw [ha] at c5
    have hr := (r.setOps (Q.ops + 1)).setLeft (Q.left - 1)
    rw [show ({ Q with ops := Q.ops + 1, left := Q.left - 1 } : RS) = { n := Q.n, seen := Q.seen, safe := Q.safe, held := Q.held, left := Q.left - 1, refuse := Q.refuse, armed := true, ops := Q.ops + 1 } by rw [← ha]] at hr
    go_enter Tryz.func81, Tryz.ntmps81
    go_wp2_with fail
    go_end0
    exact ⟨rfl, by simpa using hr, ((Fr.refl _ _).set (Or.inl (Or.inl rfl)) _).set (Or.inl (Or.inl rfl)) _⟩

set_option maxHeartbeats 400000 in
theorem rread_place (r : RDev B w g h Q) (x : Int) (hx : ¬ (0 ≤ x ∧ x < (Q.n : Int))) :
    Calls Tryz.prog 40 #[.pointer (some ⟨g, 0, none⟩), .int .i64 x] w fun e w' => e = .returned (.tuple #[.string ⟨#[]⟩, .int .i64 40]) ∧ w' = w := by
  obtain ⟨c0, _⟩ := r.cell
  by_cases h0 : x < 0
  · have d0 : decide (x < 0) = true := by simpa using h0
    go_enter Tryz.func40, Tryz.ntmps40
    go_wp2_with fail
    exact bodyPost_ret (v := .tuple #[.string ⟨#[]⟩, .int .i64 40]) (by simp [results, Tryz.results40, go_sem]) rfl ⟨rfl, rfl⟩
  · have d0 : decide (x < 0) = false := by simpa using h0
    have d1 : decide ((Q.n : Int) ≤ x) = true := by simp; omega
    go_enter Tryz.func40, Tryz.ntmps40
    go_wp2_with fail
    exact bodyPost_ret (v := .tuple #[.string ⟨#[]⟩, .int .i64 40]) (by simp [results, Tryz.results40, go_sem]) rfl ⟨rfl, rfl⟩

set_option maxHeartbeats 400000 in
theorem rread_down (r : RDev B w g h Q) (i : Nat) (hi : i < Q.n) (hd : Q.down = true) :
    Calls Tryz.prog 40 #[.pointer (some ⟨g, 0, none⟩), .int .i64 (i : Int)] w fun e w' => e = .returned (.tuple #[.string ⟨#[]⟩, .int .i64 41]) ∧ w' = w := by
  obtain ⟨c0, _⟩ := r.cell
  have cD := rdown_any r
  rw [hd] at cD
  have d0 : decide ((i : Int) < 0) = false := by simp
  have d1 : decide ((Q.n : Int) ≤ (i : Int)) = false := by simp; omega
  go_enter Tryz.func40, Tryz.ntmps40
  go_wp2_with fail
  refine cD.mono ?_
  rintro e w1 ⟨rfl, e1⟩
  rw [e1]
  go_wp2_with fail
  exact bodyPost_ret (v := .tuple #[.string ⟨#[]⟩, .int .i64 41]) (by simp [results, Tryz.results40, go_sem]) rfl ⟨rfl, rfl⟩

set_option maxHeartbeats 400000 in
theorem rread_ok (r : RDev B w g h Q) (i : Nat) (hi : i < Q.n) (hd : Q.down = false) (s : ByteArray) (hs : Q.seen i = s) :
    Calls Tryz.prog 40 #[.pointer (some ⟨g, 0, none⟩), .int .i64 (i : Int)] w fun e w' => e = .returned (.tuple #[.string s, .int .i64 0]) ∧ w' = w := by
  obtain ⟨c0, _⟩ := r.cell
  have cs := r.cellSeen i hi
  rw [hs] at cs
  have cD := rdown_any r
  rw [hd] at cD
  have d0 : decide ((i : Int) < 0) = false := by simp
  have d1 : decide ((Q.n : Int) ≤ (i : Int)) = false := by simp; omega
  have hi2 : (i : Int) < (Q.n : Int) := by omega
  go_enter Tryz.func40, Tryz.ntmps40
  go_wp2_with fail
  refine cD.mono ?_
  rintro e w1 ⟨rfl, e1⟩
  rw [e1]
  go_wp2_with fail
  exact bodyPost_ret (v := .tuple #[.string s, .int .i64 0]) (by simp [results, Tryz.results40, go_sem]) rfl ⟨rfl, rfl⟩

set_option maxHeartbeats 400000 in
theorem rwrite_place (r : RDev B w g h Q) (x : Int) (s : ByteArray) (hx : ¬ (0 ≤ x ∧ x < (Q.n : Int))) :
    Calls Tryz.prog 56 #[.pointer (some ⟨g, 0, none⟩), .int .i64 x, .string s] w fun e w' => e = .returned (.int .i64 40) ∧ w' = w := by
  obtain ⟨c0, _⟩ := r.cell
  by_cases h0 : x < 0
  · have d0 : decide (x < 0) = true := by simpa using h0
    go_enter Tryz.func56, Tryz.ntmps56
    go_wp2_with fail
    go_ret
    exact ⟨rfl, rfl⟩
  · have d0 : decide (x < 0) = false := by simpa using h0
    have d1 : decide ((Q.n : Int) ≤ x) = true := by simp; omega
    go_enter Tryz.func56, Tryz.ntmps56
    go_wp2_with fail
    go_ret
    exact ⟨rfl, rfl⟩

set_option maxHeartbeats 400000 in
theorem rwrite_long (r : RDev B w g h Q) (i : Nat) (hi : i < Q.n) (s : ByteArray) (hs : s.size ≠ 512) :
    Calls Tryz.prog 56 #[.pointer (some ⟨g, 0, none⟩), .int .i64 (i : Int), .string s] w fun e w' => e = .returned (.int .i64 2) ∧ w' = w := by
  obtain ⟨c0, _⟩ := r.cell
  have d0 : decide ((i : Int) < 0) = false := by simp
  have d1 : decide ((Q.n : Int) ≤ (i : Int)) = false := by simp; omega
  have d2 : ((s.size : Int) == 512) = false := by rw [beq_eq_false_iff_ne]; omega
  go_enter Tryz.func56, Tryz.ntmps56
  go_wp2_with fail
  go_ret
  exact ⟨rfl, rfl⟩

set_option maxHeartbeats 400000 in
theorem rwrite_down (r : RDev B w g h Q) (i : Nat) (hi : i < Q.n) (s : ByteArray) (hs : s.size = 512) (hd : Q.down = true) :
    Calls Tryz.prog 56 #[.pointer (some ⟨g, 0, none⟩), .int .i64 (i : Int), .string s] w fun e w' => e = .returned (.int .i64 41) ∧ w' = w := by
  obtain ⟨c0, _⟩ := r.cell
  have cD := rdown_any r
  rw [hd] at cD
  have d0 : decide ((i : Int) < 0) = false := by simp
  have d1 : decide ((Q.n : Int) ≤ (i : Int)) = false := by simp; omega
  have d2 : ((s.size : Int) == 512) = true := by rw [hs]; rfl
  go_enter Tryz.func56, Tryz.ntmps56
  go_wp2_with fail
  refine cD.mono ?_
  rintro e w1 ⟨rfl, e1⟩
  rw [e1]
  go_wp2_with fail
  go_ret
  exact ⟨rfl, rfl⟩

set_option maxHeartbeats 400000 in
theorem rwrite_broken (r : RDev B w g h Q) (i : Nat) (hi : i < Q.n) (s : ByteArray) (hs : s.size = 512) (hd : Q.down = false) (hq : Q.refuse = 1) :
    Calls Tryz.prog 56 #[.pointer (some ⟨g, 0, none⟩), .int .i64 (i : Int), .string s] w fun e w' => e = .returned (.int .i64 42) ∧ RDev B w' g h { Q with refuse := 0 } ∧ Fr (rfoot g h) w w' := by
  obtain ⟨c0, _, _, _, c4, _⟩ := r.cell
  rw [hq] at c4
  have f4 := r.free 4
  have cD := rdown_any r
  rw [hd] at cD
  have d0 : decide ((i : Int) < 0) = false := by simp
  have d1 : decide ((Q.n : Int) ≤ (i : Int)) = false := by simp; omega
  have d2 : ((s.size : Int) == 512) = true := by rw [hs]; rfl
  go_enter Tryz.func56, Tryz.ntmps56
  go_wp2_with fail
  refine cD.mono ?_
  rintro e w1 ⟨rfl, e1⟩
  rw [e1]
  go_wp2_with fail
  go_ret
  exact ⟨rfl, r.setRefuse 0, (Fr.refl _ _).set (Or.inl (Or.inl rfl)) _⟩
end

end Go.Proofs.YtghocbaafdnddaaGreat

/- attempt: what is thrown is told, and leaves the log unfit. -/
import Derived.Test.YtlapgalefpenbaaLText
namespace Go.Proofs.Ytlapgalefpenbaa
open Go.RowKit

set_option maxHeartbeats 400000 in
theorem catch_idle (pe pl : Addr) (w : World) :
    CallsD Try.prog 51 #[.pointer (some pe), .pointer (some pl)] .returning w fun e u' w' => e = .returned (.tuple #[]) ∧ u' = .returning ∧ w' = w := by
  refine callsD_of_wpS Try.func51 rfl fun c₀ cs hu => ?_
  apply wpS_seq
  apply wpS_region
  simp [wpOpsS, go_sem, recoverD, hu, Try.ntmps51, Exit.thenS]
  refine wpS_of_wp ?_
  rw [show (#[Value.pointer (some pe), Value.pointer (some pl)] ++ (Array.replicate 13 undef).setIfInBounds 3 Value.nilIface) = #[Value.pointer (some pe), Value.pointer (some pl), undef, undef, undef, Value.nilIface, undef, undef, undef, undef, undef, undef, undef, undef, undef] from rfl]
  go_wp2_with fail
  cases c₀
  simp_all [bodyPostS, results, Try.results51]

set_option maxHeartbeats 800000 in
set_option maxRecDepth 100000 in
theorem catch_pan (q pl lb : Nat) (x e : Int) (b : Bool) (w : World) (hpe : w.cell? ⟨q, 0, none⟩ = some (.int .i64 x)) (hfe : w.frozen? ⟨q, 0, none⟩ = false) (hpl : w.cell? ⟨pl, 0, none⟩ = some (.pointer (some ⟨lb, 0, none⟩))) (hl : w.cell? ⟨lb, 6, none⟩ = some (.bool b)) (hfl : w.frozen? ⟨lb, 6, none⟩ = false) (hne : q ≠ lb) :
    CallsD Try.prog 51 #[.pointer (some ⟨q, 0, none⟩), .pointer (some ⟨pl, 0, none⟩)] (.panicking ({ v := .iface 27 (.int .i64 e), recovered := false } :: [])) w fun r u' w' =>
      r = .returned (.tuple #[]) ∧ u' = .panicking ({ v := .iface 27 (.int .i64 e), recovered := true } :: []) ∧ w' = (w.setCell ⟨q, 0, none⟩ (.int .i64 e)).setCell ⟨lb, 6, none⟩ (.bool true) := by
  have hta : ∀ w : World, (Instr.typeAssert (.iface 27 (.int .i64 e)) 20 27 true).run Try.prog w = .ok (.tuple #[.int .i64 e, .bool true]) w := fun _ => by kernel_rfl
  have hne2 : ¬ q = lb := hne
  refine callsD_of_wpS Try.func51 rfl fun c₀ cs hu => ?_
  apply wpS_seq
  apply wpS_region
  simp [wpOpsS, go_sem, recoverD, hu, Try.ntmps51, Exit.thenS]
  refine wpS_of_wp ?_
  rw [show (#[Value.pointer (some ⟨q, 0, none⟩), Value.pointer (some ⟨pl, 0, none⟩)] ++ (Array.replicate 13 undef).setIfInBounds 3 (Value.iface 27 (.int .i64 e))) = #[Value.pointer (some ⟨q, 0, none⟩), Value.pointer (some ⟨pl, 0, none⟩), undef, undef, undef, Value.iface 27 (.int .i64 e), undef, undef, undef, undef, undef, undef, undef, undef, undef] from rfl]
  go_wp2_with fail
  cases c₀
  simp_all [bodyPostS, results, Try.results51]

set_option maxHeartbeats 800000 in
set_option maxRecDepth 100000 in
/-- What is attempted ends: no error. -/
theorem attempt_ok (lb k : Nat) (fi ca : Array Value) (w : World) (K : World → Prop) (H : Nat) (hH : H = w.heap.size) (hk : ∀ (av : Array Value) (w : World), (callFunc k av).run Try.prog w = .ok (.enter k av) w)
    (c : Calls Try.prog k (fi ++ ca) ((w.alloc (.cells #[.pointer (some ⟨lb, 0, none⟩)] 30)).alloc (.cells #[.int .i64 0] 27)) fun e w' => e = .returned (.tuple #[]) ∧ K w' ∧ w'.cell? ⟨H + 1, 0, none⟩ = some (.int .i64 0) ∧ w'.frozen? ⟨H + 1, 0, none⟩ = false) :
    Calls Try.prog 35 #[.pointer (some ⟨lb, 0, none⟩), .func (.func k) fi ca] w fun e w' => e = .returned (.int .i64 0) ∧ ∃ w1, K w1 ∧ w' = w1.setCell ⟨H + 1, 0, none⟩ (.int .i64 0) := by
  have hmf : ∀ (fn : Fn) (first cap : Array Value) (w : World), (Instr.makeFunc fn first cap).run Try.prog w = .ok (.func fn first cap) w := fun _ _ _ _ => rfl
  subst hH
  go_enter_defers Try.func35, Try.ntmps35
  go_wp2_with fail
  refine c.mono ?_
  rintro e w1 ⟨rfl, hK, c1, f1⟩
  go_wp2_with fail
  refine leaves_cons (f := 51) (args := #[.pointer (some ⟨w.heap.size + 1, 0, none⟩), .pointer (some ⟨w.heap.size, 0, none⟩)]) (by simp) (by simp [go_sem]) ?_
  refine (catch_idle ⟨w.heap.size + 1, 0, none⟩ ⟨w.heap.size, 0, none⟩ _).mono ?_
  rintro e u' w'' ⟨rfl, rfl, rfl⟩
  have hs : (w1.setCell ⟨w.heap.size + 1, 0, none⟩ (.int .i64 0)).cell? ⟨w.heap.size + 1, 0, none⟩ = some (.int .i64 0) := World.cell?_setCell_same w1 _ _ c1
  simp [Leaves, settle, results, Try.results35, go_sem, hs]
  exact ⟨_, hK, rfl⟩

set_option maxHeartbeats 800000 in
set_option maxRecDepth 100000 in
/-- What is attempted throws: its error, and the log is unfit. -/
theorem attempt_no (lb k : Nat) (x : Int) (fi ca : Array Value) (w : World) (K : World → Prop) (H : Nat) (hH : H = w.heap.size) (hlb : lb < H) (hk : ∀ (av : Array Value) (w : World), (callFunc k av).run Try.prog w = .ok (.enter k av) w)
    (c : Calls Try.prog k (fi ++ ca) ((w.alloc (.cells #[.pointer (some ⟨lb, 0, none⟩)] 30)).alloc (.cells #[.int .i64 0] 27)) fun e w' => e = .panicked (pan x) ∧ K w' ∧ w'.cell? ⟨H, 0, none⟩ = some (.pointer (some ⟨lb, 0, none⟩)) ∧ w'.cell? ⟨H + 1, 0, none⟩ = some (.int .i64 0) ∧ w'.frozen? ⟨H + 1, 0, none⟩ = false ∧ (∃ b, w'.cell? ⟨lb, 6, none⟩ = some (.bool b)) ∧ w'.frozen? ⟨lb, 6, none⟩ = false) :
    Calls Try.prog 35 #[.pointer (some ⟨lb, 0, none⟩), .func (.func k) fi ca] w fun e w' => e = .returned (.int .i64 x) ∧ ∃ w1, K w1 ∧ w' = (w1.setCell ⟨H + 1, 0, none⟩ (.int .i64 x)).setCell ⟨lb, 6, none⟩ (.bool true) := by
  have hmf : ∀ (fn : Fn) (first cap : Array Value) (w : World), (Instr.makeFunc fn first cap).run Try.prog w = .ok (.func fn first cap) w := fun _ _ _ _ => rfl
  subst hH
  go_enter_defers Try.func35, Try.ntmps35
  go_wp2_with fail
  refine c.mono ?_
  rintro e w1 ⟨rfl, hK, c0, c1, f1, ⟨b, cb⟩, fb⟩
  go_wp2_with fail
  refine leaves_cons (f := 51) (args := #[.pointer (some ⟨w.heap.size + 1, 0, none⟩), .pointer (some ⟨w.heap.size, 0, none⟩)]) (by simp) (by simp [go_sem]) ?_
  refine (catch_pan (w.heap.size + 1) w.heap.size lb 0 x b _ c1 f1 c0 cb fb (by omega)).mono ?_
  rintro e u' w'' ⟨rfl, rfl, rfl⟩
  have hs : (w1.setCell ⟨w.heap.size + 1, 0, none⟩ (.int .i64 x)).cell? ⟨w.heap.size + 1, 0, none⟩ = some (.int .i64 x) := World.cell?_setCell_same w1 _ _ c1
  simp [Leaves, settle, results, Try.results35, go_sem, hs]
  exact ⟨_, hK, rfl⟩

theorem enters41 (av : Array Value) (w : World) : (callFunc 41 av).run Try.prog w = .ok (.enter 41 av) w := by
  go_simp

end Go.Proofs.Ytlapgalefpenbaa

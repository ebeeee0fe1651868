/- The contract of val.kinds: a new map of four kinds; looking a kind up in it. -/
import Derived.Test.YtndbhalkhejgjaaVMath
import Derived.WalkKit
import Derived.MapKept
import Derived.WideMake
namespace Go.Proofs.Ytndbhalkhejgjaa
open Go.RowKit

/-- A function as a value. -/
def fv (n : Nat) : Value := .func (.func n) #[] #[]

def kind0 : Value := .agg #[fv 55, fv 56, fv 57]
def kind1 : Value := .agg #[fv 58, fv 59, fv 60]
def kind2 : Value := .agg #[fv 61, fv 62, fv 63]
def kind3 : Value := .agg #[fv 64, fv 65, fv 66]

/-- The map of kinds. -/
def kindM : Obj := .map #[{ key := .int .i64 0, val := kind0, born := 0 }, { key := .int .i64 1, val := kind1, born := 1 }, { key := .int .i64 2, val := kind2, born := 2 }, { key := .int .i64 3, val := kind3, born := 3 }] 4

theorem run_insert_new {P : Program} (w : World) (mty kt et : TypeId) (es : Array MapEntry) (clock : Nat) (c : Int) (val : Value) (hm : P.underlying mty = some (.map kt et)) (hk : P.underlying kt = some (.int .i64))
    (hf : Instr.findNow (.int .i64) (.int .i64 c) es.toList 0 = some none) :
    (Instr.mapUpdate mty (.map (some w.heap.size)) (.int .i64 c) val).run P (w.alloc (.map es clock)) = .ok () (w.alloc (.map (es.push { key := .int .i64 c, val := val, born := clock }) (clock + 1))) := by
  have hb := (MapKept.heap_alloc w (.map es clock)).1
  have hc : (Instr.checkKey false 10000 kt (.int .i64 c)).run P (w.alloc (.map es clock)) = .ok () (w.alloc (.map es clock)) := MapKept.run_checkKey (k := .int .i64 c) hk (by simp [MapKept.IsKey]) false 9999
  have he : ({ w.alloc (.map es clock) with heap := (w.alloc (.map es clock)).heap.setIfInBounds w.heap.size (.map (es.push { key := .int .i64 c, val := val, born := clock }) (clock + 1)) } : World) = w.alloc (.map (es.push { key := .int .i64 c, val := val, born := clock }) (clock + 1)) := by
    simp only [World.alloc, World.mk.injEq, and_true]
    rw [Array.setIfInBounds_def]
    simp [Array.set_push]
  rw [← he]
  simp [Instr.mapUpdate, run_underlying hm, MapKept.run_getObj_map hb, hc, MapKept.run_findKey hk hf, MapKept.run_setObj_map _ hb, Result.andThen]

theorem run_insert_one (w : World) (es : List MapEntry) (c : Nat) (val : Value) (hf : Instr.findNow (.int .i64) (.int .i64 (c : Int)) es 0 = some none) :
    (Instr.mapUpdate 70 (.map (some w.heap.size)) (.int .i64 (c : Int)) val).run Try.prog (w.alloc (.map es.toArray c)) = .ok () (w.alloc (.map (es ++ [({ key := .int .i64 (c : Int), val := val, born := c } : MapEntry)]).toArray (c + 1))) := by
  have h := run_insert_new (P := Try.prog) w 70 3 68 es.toArray c (c : Int) val Try.underlying70 Try.underlying3 (by simpa using hf)
  simpa using h

set_option maxHeartbeats 400000 in
theorem kinds_any (w : World) : Calls Try.prog 37 #[] w fun e w' => e = .returned (.map (some w.heap.size)) ∧ w' = w.alloc kindM := by
  have hmm := @run_makeMap Try.prog
  have i0 : ∀ v, (Instr.mapUpdate 70 (.map (some w.heap.size)) (.int .i64 0) v).run Try.prog (w.alloc (.map #[] 0)) = .ok () (w.alloc (.map #[{ key := .int .i64 0, val := v, born := 0 }] 1)) := fun v => run_insert_one w [] 0 v rfl
  have i1 : ∀ v0 v, (Instr.mapUpdate 70 (.map (some w.heap.size)) (.int .i64 1) v).run Try.prog (w.alloc (.map #[{ key := .int .i64 0, val := v0, born := 0 }] 1)) = .ok () (w.alloc (.map #[{ key := .int .i64 0, val := v0, born := 0 }, { key := .int .i64 1, val := v, born := 1 }] 2)) := fun v0 v => run_insert_one w [_] 1 v rfl
  have i2 : ∀ v0 v1 v, (Instr.mapUpdate 70 (.map (some w.heap.size)) (.int .i64 2) v).run Try.prog (w.alloc (.map #[{ key := .int .i64 0, val := v0, born := 0 }, { key := .int .i64 1, val := v1, born := 1 }] 2)) = .ok () (w.alloc (.map #[{ key := .int .i64 0, val := v0, born := 0 }, { key := .int .i64 1, val := v1, born := 1 }, { key := .int .i64 2, val := v, born := 2 }] 3)) := fun v0 v1 v => run_insert_one w [_, _] 2 v rfl
  have i3 : ∀ v0 v1 v2 v, (Instr.mapUpdate 70 (.map (some w.heap.size)) (.int .i64 3) v).run Try.prog (w.alloc (.map #[{ key := .int .i64 0, val := v0, born := 0 }, { key := .int .i64 1, val := v1, born := 1 }, { key := .int .i64 2, val := v2, born := 2 }] 3)) = .ok () (w.alloc (.map #[{ key := .int .i64 0, val := v0, born := 0 }, { key := .int .i64 1, val := v1, born := 1 }, { key := .int .i64 2, val := v2, born := 2 }, { key := .int .i64 3, val := v, born := 3 }] 4)) := fun v0 v1 v2 v => run_insert_one w [_, _, _] 3 v rfl
  go_enter Try.func37, Try.ntmps37
  go_wp2
  go_ret
  exact ⟨rfl, rfl⟩

/-- What stands at a kind. -/
def kindV (c : Int) : Value := if c = 0 then kind0 else if c = 1 then kind1 else if c = 2 then kind2 else if c = 3 then kind3 else .agg #[.nilFunc, .nilFunc, .nilFunc]

theorem kindV_no (c : Int) (h : c < 0 ∨ 3 < c) : kindV c = .agg #[.nilFunc, .nilFunc, .nilFunc] := by
  unfold kindV
  rw [if_neg (by omega), if_neg (by omega), if_neg (by omega), if_neg (by omega)]

theorem run_kind (W : World) (b : Nat) (c : Int) (hb : W.heap[b]? = some kindM) :
    (Instr.lookup 70 (.map (some b)) (.int .i64 c) true).run Try.prog W = .ok (.tuple #[kindV c, .bool (decide (0 ≤ c) && decide (c ≤ 3))]) W := by
  have hc : ∀ e, (Instr.checkKey e 10000 3 (.int .i64 c)).run Try.prog W = .ok () W := fun e => MapKept.run_checkKey (k := .int .i64 c) Try.underlying3 (by simp [MapKept.IsKey]) e 9999
  have hz : ∀ w : World, (zeroValue 68).run Try.prog w = .ok (.agg #[.nilFunc, .nilFunc, .nilFunc]) w := fun w => by kernel_rfl
  unfold kindM at hb
  unfold kindV
  have hf0 : Instr.findNow (.int .i64) (.int .i64 0) [{ key := .int .i64 0, val := kind0, born := 0 }, { key := .int .i64 1, val := kind1, born := 1 }, { key := .int .i64 2, val := kind2, born := 2 }, { key := .int .i64 3, val := kind3, born := 3 }] 0 = some (some (0, kind0)) := rfl
  have hf1 : Instr.findNow (.int .i64) (.int .i64 1) [{ key := .int .i64 0, val := kind0, born := 0 }, { key := .int .i64 1, val := kind1, born := 1 }, { key := .int .i64 2, val := kind2, born := 2 }, { key := .int .i64 3, val := kind3, born := 3 }] 0 = some (some (1, kind1)) := rfl
  have hf2 : Instr.findNow (.int .i64) (.int .i64 2) [{ key := .int .i64 0, val := kind0, born := 0 }, { key := .int .i64 1, val := kind1, born := 1 }, { key := .int .i64 2, val := kind2, born := 2 }, { key := .int .i64 3, val := kind3, born := 3 }] 0 = some (some (2, kind2)) := rfl
  have hf3 : Instr.findNow (.int .i64) (.int .i64 3) [{ key := .int .i64 0, val := kind0, born := 0 }, { key := .int .i64 1, val := kind1, born := 1 }, { key := .int .i64 2, val := kind2, born := 2 }, { key := .int .i64 3, val := kind3, born := 3 }] 0 = some (some (3, kind3)) := rfl
  by_cases h0 : c = 0
  · subst h0
    simp [Instr.lookup, run_underlying Try.underlying70, MapKept.run_getObj_map hb, hc, Result.andThen, MapKept.run_findKey Try.underlying3 hf0]
  by_cases h1 : c = 1
  · subst h1
    simp [Instr.lookup, run_underlying Try.underlying70, MapKept.run_getObj_map hb, hc, Result.andThen, MapKept.run_findKey Try.underlying3 hf1]
  by_cases h2 : c = 2
  · subst h2
    simp [Instr.lookup, run_underlying Try.underlying70, MapKept.run_getObj_map hb, hc, Result.andThen, MapKept.run_findKey Try.underlying3 hf2]
  by_cases h3 : c = 3
  · subst h3
    simp [Instr.lookup, run_underlying Try.underlying70, MapKept.run_getObj_map hb, hc, Result.andThen, MapKept.run_findKey Try.underlying3 hf3]
  have hf : ∀ v0 v1 v2 v3, Instr.findNow (.int .i64) (.int .i64 c) [{ key := .int .i64 0, val := v0, born := 0 }, { key := .int .i64 1, val := v1, born := 1 }, { key := .int .i64 2, val := v2, born := 2 }, { key := .int .i64 3, val := v3, born := 3 }] 0 = some none := by
    intro v0 v1 v2 v3
    simp [Instr.findNow, Instr.sameNow, show (c == 0) = false by rw [beq_eq_false_iff_ne]; exact h0, show (c == 1) = false by rw [beq_eq_false_iff_ne]; exact h1, show (c == 2) = false by rw [beq_eq_false_iff_ne]; exact h2, show (c == 3) = false by rw [beq_eq_false_iff_ne]; exact h3]
  have hd : (decide (0 ≤ c) && decide (c ≤ 3)) = false := by
    rw [Bool.and_eq_false_iff, decide_eq_false_iff_not, decide_eq_false_iff_not]
    omega
  simp [Instr.lookup, run_underlying Try.underlying70, MapKept.run_getObj_map hb, hc, Result.andThen, MapKept.run_findKey Try.underlying3 (hf _ _ _ _), hz, h0, h1, h2, h3, hd]

end Go.Proofs.Ytndbhalkhejgjaa

/- Layer 10: a way, walked backwards: a range over slices.Backward. -/
import Derived.Test.YtkfoddblgdmabaaTrLower
import Derived.RangeFuncNested
import Derived.RangeFuncBound
import Derived.RangeFuncCalls
import Derived.RangeFuncLeaves
import Derived.Shelf.Abstract
import Derived.Shelf.RegionOpen
import Derived.OwnWalkIn
import Derived.TacticsInMore
import Derived.LoopNIn
import Derived.LoopIn
namespace Go.Proofs.Ytkfoddblgdmabaa.tr
open Go.RowKit Go.Shelf

attribute [local go_sem] Oper.semAt_some

set_option maxRecDepth 100000 in
set_option maxHeartbeats 2000000 in
theorem back1_in (n l Bs : Nat) (zs : List (Nat × Nat)) (v : Value) (J : Nat → World → Prop) (Jx : World → Prop) (hlen : zs.length ≤ 100000)
    (hr : ∀ k W, J k W → W.cell? ⟨Bs, 0, none⟩ = some v ∧ RowS W 0 v zs)
    (hY : ∀ k q W, zs[k]? = some q → J (k + 1) W → YieldAt Fence.wide (n - 1) Try.prog l #[.int .i64 (k : Int), .agg #[.pointer (some ⟨q.1, 0, none⟩), .int .i64 (q.2 : Int)]] W fun e W' => (e = .returned (.bool true) ∧ J k W') ∨ (e = .returned (.bool false) ∧ Jx W'))
    (W : World) (h0 : J zs.length W) :
    CallsIn Fence.wide n Try.prog 55 #[.func (.yield l) #[] #[], .pointer (some ⟨Bs, 0, none⟩)] W fun e W' => (∃ v, e = .returned v) ∧ (J 0 W' ∨ Jx W') := by
  have HR : Hid (∀ k W, J k W → W.cell? ⟨Bs, 0, none⟩ = some v ∧ RowS W 0 v zs) := hr
  obtain ⟨b0, r0⟩ := hr _ _ h0
  obtain ⟨a, c, rfl, hlc, hcm⟩ := r0.len
  unfold maxLen at hcm
  clear hr r0
  refine callsIn_of_wp Try.func55 rfl trivial ?_ rfl
  simp only [Try.ntmps55, List.size_toArray, List.length_cons, List.length_nil, Nat.reduceAdd, Nat.reduceSub, Array.replicate_succ, Array.replicate_zero, List.push_toArray, List.append_toArray, List.nil_append, List.cons_append]
  gi_wp2
  gi_loopw [3] (fun i wr => ∃ k : Nat, k ≤ zs.length ∧ i = .int .i64 ((k : Int) - 1) ∧ J k wr) (fun i _ => (RowKit.intOf i + 1).toNat)
  case atStart => exact ⟨zs.length, Nat.le_refl _, rfl, h0⟩
  case round =>
    obtain ⟨k, hk, rfl, hJ⟩ := hrel
    obtain ⟨cb, row⟩ := HR.out _ _ hJ
    cases k with
    | zero =>
      rw [show ((0 : Nat) : Int) - 1 = -1 from rfl]
      clear row
      gi_wp2
      go_end0
      exact ⟨⟨_, rfl⟩, Or.inl hJ⟩
    | succ k =>
      rw [show ((k + 1 : Nat) : Int) - 1 = (k : Int) by omega]
      obtain ⟨q, hq⟩ : ∃ q, zs[k]? = some q := ⟨_, List.getElem?_eq_getElem (by omega)⟩
      obtain ⟨b, c', e1, _, _, _, hc⟩ := row.cell gS_len hq
      cases e1
      have k0 := (hc 0 _ rfl).1
      have k1 := (hc 1 _ rfl).1
      rw [Nat.add_zero] at k0
      obtain ⟨fn, tmps, assign, body, hy, hR⟩ := hY k q wr hq hJ
      have hkl : (k : Int) < (zs.length : Int) := by omega
      have hkl2 : k < zs.length := by omega
      have hk0 : (0 : Int) ≤ (k : Int) := by omega
      clear hc row hJ
      obtain ⟨q1, q2⟩ := q
      dsimp only at hy k0 k1
      gi_wp2
      refine ⟨fun h => (by cases h), hR.mono ?_⟩
      rintro e W3 (⟨rfl, hJ3⟩ | ⟨rfl, hJx3⟩)
      · gi_wp2
        go_roundw
        case rel => exact ⟨k, by omega, rfl, hJ3⟩
        case measure => simp [RowKit.intOf]
      · gi_wp2
        refine bodyPost_ret (results_none rfl _ _ _) rfl ?_
        exact ⟨⟨_, rfl⟩, Or.inr hJx3⟩

section
variable {P : Program}
/-- How a round over a way is left. -/
def backPost (B : Nat) (J : Nat → World → Prop) (Jx : Code → World → Prop) (k : Nat) (W : World) : Exit → Act → World → Prop
  | .normal, _, W' => KeepsFrom B W W' ∧ J k W'
  | .ret, _, W' => KeepsFrom B W W' ∧ Jx .ret W'
  | .exit id, _, W' => KeepsFrom B W W' ∧ Jx (.exit id) W'
  | _, _, _ => False

/-- **A loop over slices.Backward of a way**: J k: k spots are left; a round at the last one of them. -/
theorem wp_backward {n : Nat} {g : Operand} {ps : Array Tmp} {assign body : Code} {Q : Exit → Act → World → Prop} {a : Act} {w : World} {Bs : Nat} {zs : List (Nat × Nat)} {v : Value} (hg : a.eval g = .func (.func 55) #[] #[.pointer (some ⟨Bs, 0, none⟩)]) (hps : ps.size = 2) (hlen : zs.length ≤ 100000)
    (J : Nat → World → Prop) (Jx : Code → World → Prop) (hJ : OwnFrom w.heap.size J) (hJx : OwnFrom w.heap.size Jx) (hr : ∀ k W, J k W → W.cell? ⟨Bs, 0, none⟩ = some v ∧ RowS W 0 v zs) (h0 : J zs.length w)
    (Ax : Nat → Act → World → Prop) (hAx : ∀ k a', OwnFrom w.heap.size (fun (_ : Unit) W => Ax k a' W))
    (hassign : ∀ (l k : Nat) (q : Nat × Nat) (W : World) (K : Act → World → Prop), zs[k]? = some q → J (k + 1) W → (∀ a' W', KeepsFrom w.heap.size W W' → J (k + 1) W' → Ax k a' W' → K a' W') →
      assign.wpIn (Fence.wide.inRound l) (n - 1 - 1) Try.prog (Exit.then K (fun _ _ _ => False)) { tmps := (ps.zip #[.int .i64 (k : Int), .agg #[.pointer (some ⟨q.1, 0, none⟩), .int .i64 (q.2 : Int)]]).foldl (fun t (p, v) => t.setIfInBounds p v) a.tmps, defers := [] } W)
    (hbody : ∀ (l k : Nat) (q : Nat × Nat) (a' : Act) (W : World), w.heap.size ≤ l → zs[k]? = some q → J (k + 1) W → Ax k a' W → body.wpIn (Fence.wide.inRound l) (n - 1 - 1) Try.prog (backPost w.heap.size J Jx k W) a' W)
    (hdone : ∀ (D : Nat) (W : World), w.heap.size ≤ D → J 0 W → W.heap[D]? = some (.deferred (some [])) → Q .normal { a with defers := { target := .collected D, args := #[] } :: a.defers } W)
    (hstop : ∀ (D : Nat) (c : Code) (W : World), w.heap.size ≤ D → Jx c W → W.heap[D]? = some (.deferred (some [])) → c.wpIn Fence.wide n Try.prog Q { a with defers := { target := .collected D, args := #[] } :: a.defers } W) :
    (Code.rangeFunc g ps assign body).wpIn Fence.wide n Try.prog Q a w := by
  refine wpIn_rangeFunc fun fn _ => ?_
  -- the loop's record and the block for the rounds' deferred calls
  obtain ⟨rec, hrec⟩ : ∃ rec : LoopState → Option Code → Loop, rec = fun st pe => { state := st, pending := pe, fn, tmps := a.tmps, params := ps, assign, body, defers := w.heap.size } := ⟨_, rfl⟩
  let W1 := (w.alloc (.deferred (some []))).alloc (.loop (rec .ready none))
  have hL1 : W1.heap[w.heap.size + 1]? = some (.loop (rec .ready none)) := by
    have := World.alloc_heap_new (w.alloc (.deferred (some []))) (.loop (rec .ready none))
    rwa [World.size_alloc] at this
  have hK1 : W1.heap[w.heap.size]? = some (.deferred (some [])) := (Below.heap_alloc _ _ _ (by simp)).trans (World.alloc_heap_new w _)
  -- what goes with J and Jx through the rounds
  let J' : Nat → World → Prop := fun k W => J k W ∧ W.heap[w.heap.size + 1]? = some (.loop (rec .ready none)) ∧ W.heap[w.heap.size]? = some (.deferred (some []))
  let Jx' : World → Prop := fun W => ∃ c, Jx c W ∧ W.heap[w.heap.size + 1]? = some (.loop (rec .done (some c))) ∧ W.heap[w.heap.size]? = some (.deferred (some []))
  have hJ1 : J' zs.length W1 := ⟨hJ.alloc _ (hJ.alloc _ h0), hL1, hK1⟩
  have hround : ∀ k q W, zs[k]? = some q → J' (k + 1) W → YieldAt Fence.wide (n - 1 - 1) Try.prog (w.heap.size + 1) #[.int .i64 (k : Int), .agg #[.pointer (some ⟨q.1, 0, none⟩), .int .i64 (q.2 : Int)]] W fun e W' => (e = .returned (.bool true) ∧ J' k W') ∨ (e = .returned (.bool false) ∧ Jx' W') := by
    rintro k q W hq ⟨hj, hl, hk⟩
    have hy := run_yield (P := Try.prog) (args := #[.int .i64 (k : Int), .agg #[.pointer (some ⟨q.1, 0, none⟩), .int .i64 (q.2 : Int)]]) hl (by rw [hrec]; exact hps.symm)
    rw [hrec] at hy
    refine ⟨fn, _, assign, body, hy, roundIn_of_wpIn trivial (hassign _ k q W _ hq hj ?_)⟩
    clear hy
    intro a' W2 kf hj2 hax
    have hl2 := kf.same _ _ (by omega) hl rfl
    have hk2 := kf.same _ _ (Nat.le_refl _) hk rfl
    have hlt : w.heap.size + 1 < W2.heap.size := (Array.getElem?_eq_some_iff.1 hl2).1
    refine ⟨_, run_beginRound hl2 (by rw [hrec]), ?_⟩
    have hl3 : (W2.putObj (w.heap.size + 1) (.loop { rec .ready none with state := .busy })).heap[w.heap.size + 1]? = some (.loop { rec .ready none with state := .busy }) := World.putObj_heap_same hlt
    have hk3 : (W2.putObj (w.heap.size + 1) (.loop { rec .ready none with state := .busy })).heap[w.heap.size]? = some (.deferred (some [])) := (World.putObj_heap_other (by omega)).trans hk2
    refine wpIn_mono (hbody _ k q a' _ (by omega) hq (hJ.putObj _ hj2 (by omega) hl2 rfl) ((hAx k a').putObj (s := ()) _ hax (by omega) hl2 rfl)) ?_
    -- the round's end
    have fin : ∀ (jump : Option Code) (W4 : World), KeepsFrom w.heap.size (W2.putObj (w.heap.size + 1) (.loop { rec .ready none with state := .busy })) W4 →
        ∃ W5, (Instr.endRound (w.heap.size + 1) jump).run Try.prog W4 = .ok (.bool jump.isNone) W5 ∧ W5 = W4.putObj (w.heap.size + 1) (.loop (rec (if jump.isNone then .ready else .done) jump)) ∧ W4.heap[w.heap.size + 1]? = some (.loop { rec .ready none with state := .busy }) ∧ W5.heap[w.heap.size + 1]? = some (.loop (rec (if jump.isNone then .ready else .done) jump)) ∧ W5.heap[w.heap.size]? = some (.deferred (some [])) := fun jump W4 k4 => by
      have hl4 := k4.same _ _ (by omega) hl3 rfl
      have hk4 := k4.same _ _ (Nat.le_refl _) hk3 rfl
      have hrun := run_endRound (P := Try.prog) jump hl4
      rw [hrec] at hrun
      refine ⟨_, hrun, by rw [hrec], hl4, ?_, (World.putObj_heap_other (by omega)).trans hk4⟩
      rw [hrec]
      exact World.putObj_heap_same (Array.getElem?_eq_some_iff.1 hl4).1
    rintro e a3 W4 hp
    cases e with
    | normal =>
      obtain ⟨k4, j4⟩ := hp
      obtain ⟨W5, e1, rfl, l4, l5, d5⟩ := fin none W4 k4
      exact ⟨_, _, e1, Or.inl ⟨rfl, hJ.putObj _ j4 (by omega) l4 rfl, l5, d5⟩⟩
    | ret =>
      obtain ⟨k4, j4⟩ := hp
      obtain ⟨W5, e1, rfl, l4, l5, d5⟩ := fin (some .ret) W4 k4
      exact ⟨_, _, e1, Or.inr ⟨rfl, .ret, hJx.putObj _ j4 (by omega) l4 rfl, l5, d5⟩⟩
    | exit id =>
      obtain ⟨k4, j4⟩ := hp
      obtain ⟨W5, e1, rfl, l4, l5, d5⟩ := fin (some (.exit id)) W4 k4
      exact ⟨_, _, e1, Or.inr ⟨rfl, .exit id, hJx.putObj _ j4 (by omega) l4 rfl, l5, d5⟩⟩
    | goto t => exact hp.elim
    | panic ch => exact hp.elim
    | outgrown => exact hp.elim
  have hcall := back1_in (n - 1) (w.heap.size + 1) Bs zs v J' Jx' hlen (fun k W h => hr k W h.1) hround W1 hJ1
  refine ⟨w.heap.size + 1, [{ target := .collected w.heap.size, args := #[] }], W1, { target := .fn (.func 55) #[.pointer (some ⟨Bs, 0, none⟩)], args := #[.func (.yield (w.heap.size + 1)) #[] #[]] }, W1, 55, #[.func (.yield (w.heap.size + 1)) #[] #[], .pointer (some ⟨Bs, 0, none⟩)], W1, ?_, ?_, fun _ _ => trivial, ?_, fun h => (by cases h), hcall.mono ?_⟩
  · have := run_enterLoop_outer (P := Try.prog) (w := w) fn a.tmps ps assign body
    rw [show W1 = (w.alloc (.deferred (some []))).alloc (.loop (rec .ready none)) from rfl, hrec]
    exact this
  · simp only [resolve, hg]
    simp [go_sem]
  · simp [invoke, go_sem]
  · rintro e W2 ⟨⟨x, rfl⟩, ⟨j2, l2, d2⟩ | ⟨c, j2, l2, d2⟩⟩
    · have hrun := run_endLoop (P := Try.prog) l2 (by rw [hrec]; simp)
      have hpe : (rec .ready none).pending = none := by rw [hrec]
      rw [hpe] at hrun
      exact ⟨none, _, hrun, hdone _ _ (Nat.le_refl _) (hJ.putObj _ j2 (by omega) l2 rfl) ((World.putObj_heap_other (by omega)).trans d2)⟩
    · have hrun := run_endLoop (P := Try.prog) l2 (by rw [hrec]; simp)
      have hpe : (rec .done (some c)).pending = some c := by rw [hrec]
      rw [hpe] at hrun
      exact ⟨some c, _, hrun, hstop _ c _ (Nat.le_refl _) (hJx.putObj _ j2 (by omega) l2 rfl) ((World.putObj_heap_other (by omega)).trans d2)⟩
end

end Go.Proofs.Ytkfoddblgdmabaa.tr

/- Layer 10: a loop over the entries of a tree from a key on. -/
import Derived.Test.YtkfoddblgdmabaaTrEach
namespace Go.Proofs.Ytkfoddblgdmabaa.tr
open Go.RowKit Go.Shelf

attribute [local go_sem] Oper.semAt_some

set_option maxHeartbeats 1600000 in
theorem rising_any (w : World) (R : Nat) (key : ByteArray) : Calls Try.prog 40 #[.pointer (some ⟨R, 0, none⟩), .string key] w fun e w' => e = .returned (.func (.func 53) #[] #[.pointer (some ⟨w.heap.size, 0, none⟩), .pointer (some ⟨w.heap.size + 1, 0, none⟩)]) ∧ w' = (w.alloc (.cells #[.pointer (some ⟨R, 0, none⟩)] 65)).alloc (.cells #[.string key] 9) := by
  go_enter Try.func40, Try.ntmps40
  go_wp2_with fail
  go_ret
  exact ⟨rfl, rfl⟩

theorem YieldAt.anyDepthW {m : Nat} (m' : Nat) {P : Program} {l : Nat} {args : Array Value} {W : World} {R : Ending → World → Prop} (h : YieldAt Fence.wide m P l args W R) : YieldAt Fence.wide m' P l args W R := by
  obtain ⟨fn, tmps, assign, body, hy, hR⟩ := h
  exact ⟨fn, tmps, assign, body, hy, ⟨hR.1, fun c cs _ => hR.2 c cs (room_wide _)⟩⟩

set_option maxHeartbeats 1600000 in
theorem rise1_in (n l xn xk B : Nat) (M : Mp) (f H R : Nat) (key : ByteArray) (L : List Ent) (F : List Nat) (J Jx : List Ent → World → Prop) (hJM : ∀ pre W, J pre W → Mm W B M) (hJB : ∀ pre W W', J pre W → Below W.heap.size W W' → J pre W')
    (hY : ∀ m pre x W, J pre W → (∃ Z, rg key L = pre ++ x :: Z) → YieldAt Fence.wide m Try.prog l #[.agg #[.string x.key, .int .i64 x.n]] W fun e W' => (e = .returned (.bool true) ∧ J (pre ++ [x]) W') ∨ (e = .returned (.bool false) ∧ Jx (pre ++ [x]) W'))
    (W : World) (c1 : W.cell? ⟨xn, 0, none⟩ = some (.pointer (some ⟨R, 0, none⟩))) (c2 : W.cell? ⟨xk, 0, none⟩ = some (.string key)) (tr : Tr M f H R L F) (hs : Srt L) (hlen : L.length ≤ 20000) (hJ : J [] W) :
    CallsIn Fence.wide n Try.prog 53 #[.func (.yield l) #[] #[], .pointer (some ⟨xn, 0, none⟩), .pointer (some ⟨xk, 0, none⟩)] W fun e W' => (∃ v, e = .returned v) ∧ (J (rg key L) W' ∨ ∃ q, Jx q W') := by
  have hea := each_any l B M f key (rg key L) J Jx hJM hJB hY H (n - 1) R L F [] W tr hs hlen hJ ⟨[], by simp⟩
  clear hY hJM hJB
  refine callsIn_of_wp Try.func53 rfl trivial ?_ rfl
  simp only [Try.ntmps53, List.size_toArray, List.length_cons, List.length_nil, Nat.reduceAdd, Nat.reduceSub, Array.replicate_succ, Array.replicate_zero, List.push_toArray, List.append_toArray, List.nil_append, List.cons_append]
  gi_wp2_with (refine ⟨trivial, fun h => (by cases h), ?_⟩; gi_at_call 54; refine hea.mono ?_; clear hea; rintro e W1 (⟨rfl, hJ1⟩ | ⟨rfl, q, hq, hx⟩))
  · go_end0
    exact ⟨⟨_, rfl⟩, Or.inl (by simpa using hJ1)⟩
  · go_end0
    exact ⟨⟨_, rfl⟩, Or.inr ⟨_, hx⟩⟩

section
/-- How a round over a tree's entries is left. -/
def risePost (B : Nat) (J : List Ent → World → Prop) (Jx : Code → World → Prop) (xs : List Ent) (W : World) : Exit → Act → World → Prop
  | .normal, _, W' => KeepsFrom B W W' ∧ J xs W'
  | .ret, _, W' => KeepsFrom B W W' ∧ Jx .ret W'
  | .exit id, _, W' => KeepsFrom B W W' ∧ Jx (.exit id) W'
  | _, _, _ => False

/-- **A loop over the entries of a tree from a key on**: J xs: xs came. -/
theorem wp_rising {n : Nat} {g : Operand} {ps : Array Tmp} {assign body : Code} {Q : Exit → Act → World → Prop} {a : Act} {w : World} {xn xk B f H R : Nat} {M : Mp} {key : ByteArray} {L : List Ent} {F : List Nat} (hg : a.eval g = .func (.func 53) #[] #[.pointer (some ⟨xn, 0, none⟩), .pointer (some ⟨xk, 0, none⟩)]) (hps : ps.size = 1)
    (c1 : w.cell? ⟨xn, 0, none⟩ = some (.pointer (some ⟨R, 0, none⟩))) (c2 : w.cell? ⟨xk, 0, none⟩ = some (.string key)) (hxn : xn < w.heap.size) (hxk : xk < w.heap.size) (tr : Tr M f H R L F) (hs : Srt L) (hlen : L.length ≤ 20000)
    (J : List Ent → World → Prop) (Jx : Code → World → Prop) (hJ : OwnFrom w.heap.size J) (hJx : OwnFrom w.heap.size Jx) (hJM : ∀ pre W, J pre W → Mm W B M) (hJB : ∀ pre W W', J pre W → Below W.heap.size W W' → J pre W') (h0 : J [] w)
    (Ax : Ent → Act → World → Prop) (hAx : ∀ k a', OwnFrom w.heap.size (fun (_ : Unit) W => Ax k a' W))
    (hassign : ∀ (l : Nat) (pre : List Ent) (x : Ent) (W : World) (K : Act → World → Prop), J pre W → (∀ a' W', KeepsFrom w.heap.size W W' → J pre W' → Ax x a' W' → K a' W') →
      assign.wpIn (Fence.wide.inRound l) (n - 1 - 1) Try.prog (Exit.then K (fun _ _ _ => False)) { tmps := (ps.zip #[.agg #[.string x.key, .int .i64 x.n]]).foldl (fun t (p, v) => t.setIfInBounds p v) a.tmps, defers := [] } W)
    (hbody : ∀ (l : Nat) (pre : List Ent) (x : Ent) (a' : Act) (W : World), w.heap.size ≤ l → (∃ Z, rg key L = pre ++ x :: Z) → J pre W → Ax x a' W → body.wpIn (Fence.wide.inRound l) (n - 1 - 1) Try.prog (risePost w.heap.size J Jx (pre ++ [x]) W) a' W)
    (hdone : ∀ (D : Nat) (W : World), w.heap.size ≤ D → J (rg key L) W → W.heap[D]? = some (.deferred (some [])) → Q .normal { a with defers := { target := .collected D, args := #[] } :: a.defers } W)
    (hstop : ∀ (D : Nat) (c : Code) (W : World), w.heap.size ≤ D → Jx c W → W.heap[D]? = some (.deferred (some [])) → c.wpIn Fence.wide n Try.prog Q { a with defers := { target := .collected D, args := #[] } :: a.defers } W) :
    (Code.rangeFunc g ps assign body).wpIn Fence.wide n Try.prog Q a w := by
  refine wpIn_rangeFunc fun fn _ => ?_
  obtain ⟨rec, hrec⟩ : ∃ rec : LoopState → Option Code → Loop, rec = fun st pe => { state := st, pending := pe, fn, tmps := a.tmps, params := ps, assign, body, defers := w.heap.size } := ⟨_, rfl⟩
  let W1 := (w.alloc (.deferred (some []))).alloc (.loop (rec .ready none))
  have hL1 : W1.heap[w.heap.size + 1]? = some (.loop (rec .ready none)) := by
    have := World.alloc_heap_new (w.alloc (.deferred (some []))) (.loop (rec .ready none))
    rwa [World.size_alloc] at this
  have hK1 : W1.heap[w.heap.size]? = some (.deferred (some [])) := (Below.heap_alloc _ _ _ (by simp)).trans (World.alloc_heap_new w _)
  have hW1 : Below w.heap.size w W1 := below2 (below_alloc1 _ _) (below_alloc1 _ _)
  let J' : List Ent → World → Prop := fun k W => J k W ∧ W.heap[w.heap.size + 1]? = some (.loop (rec .ready none)) ∧ W.heap[w.heap.size]? = some (.deferred (some []))
  let Jx' : List Ent → World → Prop := fun _ W => ∃ c, Jx c W ∧ W.heap[w.heap.size + 1]? = some (.loop (rec .done (some c))) ∧ W.heap[w.heap.size]? = some (.deferred (some []))
  have hJ1 : J' [] W1 := ⟨hJ.alloc _ (hJ.alloc _ h0), hL1, hK1⟩
  have hround : ∀ m pre x W, J' pre W → (∃ Z, rg key L = pre ++ x :: Z) → YieldAt Fence.wide m Try.prog (w.heap.size + 1) #[.agg #[.string x.key, .int .i64 x.n]] W fun e W' => (e = .returned (.bool true) ∧ J' (pre ++ [x]) W') ∨ (e = .returned (.bool false) ∧ Jx' (pre ++ [x]) W') := by
    rintro m pre x W ⟨hj, hl, hk⟩ hxm
    have hy := run_yield (P := Try.prog) (args := #[.agg #[.string x.key, .int .i64 x.n]]) hl (by rw [hrec]; exact hps.symm)
    rw [hrec] at hy
    refine YieldAt.anyDepthW m ⟨fn, _, assign, body, hy, roundIn_of_wpIn (n := n - 1 - 1) trivial (hassign _ pre x W _ hj ?_)⟩
    clear hy
    intro a' W2 kf hj2 hax
    have hl2 := kf.same _ _ (by omega) hl rfl
    have hk2 := kf.same _ _ (Nat.le_refl _) hk rfl
    have hlt : w.heap.size + 1 < W2.heap.size := (Array.getElem?_eq_some_iff.1 hl2).1
    refine ⟨_, run_beginRound hl2 (by rw [hrec]), ?_⟩
    have hl3 : (W2.putObj (w.heap.size + 1) (.loop { rec .ready none with state := .busy })).heap[w.heap.size + 1]? = some (.loop { rec .ready none with state := .busy }) := World.putObj_heap_same hlt
    have hk3 : (W2.putObj (w.heap.size + 1) (.loop { rec .ready none with state := .busy })).heap[w.heap.size]? = some (.deferred (some [])) := (World.putObj_heap_other (by omega)).trans hk2
    refine wpIn_mono (hbody _ pre x a' _ (by omega) hxm (hJ.putObj _ hj2 (by omega) hl2 rfl) ((hAx x a').putObj (s := ()) _ hax (by omega) hl2 rfl)) ?_
    have fin : ∀ (jump : Option Code) (W4 : World), KeepsFrom w.heap.size (W2.putObj (w.heap.size + 1) (.loop { rec .ready none with state := .busy })) W4 →
        ∃ W5, (Instr.endRound (w.heap.size + 1) jump).run Try.prog W4 = .ok (.bool jump.isNone) W5 ∧ W5 = W4.putObj (w.heap.size + 1) (.loop (rec (if jump.isNone then .ready else .done) jump)) ∧ W4.heap[w.heap.size + 1]? = some (.loop { rec .ready none with state := .busy }) ∧ W5.heap[w.heap.size + 1]? = some (.loop (rec (if jump.isNone then .ready else .done) jump)) ∧ W5.heap[w.heap.size]? = some (.deferred (some [])) := fun jump W4 k4 => by
      have hl4 := k4.same _ _ (by omega) hl3 rfl
      have hk4 := k4.same _ _ (Nat.le_refl _) hk3 rfl
      have hrun := run_endRound (P := Try.prog) jump hl4
      rw [hrec] at hrun
      refine ⟨_, hrun, by rw [hrec], hl4, ?_, (World.putObj_heap_other (by omega)).trans hk4⟩
      rw [hrec]
      exact World.putObj_heap_same (Array.getElem?_eq_some_iff.1 hl4).1
    rintro e a3 W4 hp
    cases e with
    | normal =>
      obtain ⟨k4, j4⟩ := hp
      obtain ⟨W5, e1, rfl, l4, l5, d5⟩ := fin none W4 k4
      exact ⟨_, _, e1, Or.inl ⟨rfl, hJ.putObj _ j4 (by omega) l4 rfl, l5, d5⟩⟩
    | ret =>
      obtain ⟨k4, j4⟩ := hp
      obtain ⟨W5, e1, rfl, l4, l5, d5⟩ := fin (some .ret) W4 k4
      exact ⟨_, _, e1, Or.inr ⟨rfl, .ret, hJx.putObj _ j4 (by omega) l4 rfl, l5, d5⟩⟩
    | exit id =>
      obtain ⟨k4, j4⟩ := hp
      obtain ⟨W5, e1, rfl, l4, l5, d5⟩ := fin (some (.exit id)) W4 k4
      exact ⟨_, _, e1, Or.inr ⟨rfl, .exit id, hJx.putObj _ j4 (by omega) l4 rfl, l5, d5⟩⟩
    | goto t => exact hp.elim
    | panic ch => exact hp.elim
    | outgrown => exact hp.elim
  have hcall := rise1_in (n - 1) (w.heap.size + 1) xn xk B M f H R key L F J' Jx' (fun pre W h => hJM pre W h.1) (fun pre W W' h hb => ⟨hJB _ _ _ h.1 hb, (hb.block _ (Array.getElem?_eq_some_iff.1 h.2.1).1).trans h.2.1, (hb.block _ (Array.getElem?_eq_some_iff.1 h.2.2).1).trans h.2.2⟩) hround W1 ((hW1.cell (p := ⟨xn, 0, none⟩) hxn).trans c1) ((hW1.cell (p := ⟨xk, 0, none⟩) hxk).trans c2) tr hs hlen hJ1
  refine ⟨w.heap.size + 1, [{ target := .collected w.heap.size, args := #[] }], W1, { target := .fn (.func 53) #[.pointer (some ⟨xn, 0, none⟩), .pointer (some ⟨xk, 0, none⟩)], args := #[.func (.yield (w.heap.size + 1)) #[] #[]] }, W1, 53, #[.func (.yield (w.heap.size + 1)) #[] #[], .pointer (some ⟨xn, 0, none⟩), .pointer (some ⟨xk, 0, none⟩)], W1, ?_, ?_, fun _ _ => trivial, ?_, fun h => (by cases h), hcall.mono ?_⟩
  · have := run_enterLoop_outer (P := Try.prog) (w := w) fn a.tmps ps assign body
    rw [show W1 = (w.alloc (.deferred (some []))).alloc (.loop (rec .ready none)) from rfl, hrec]
    exact this
  · simp only [resolve, hg]
    simp [go_sem]
  · simp [invoke, go_sem]
  · rintro e W2 ⟨⟨x, rfl⟩, ⟨j2, l2, d2⟩ | ⟨q, c, j2, l2, d2⟩⟩
    · have hrun := run_endLoop (P := Try.prog) l2 (by rw [hrec]; simp)
      have hpe : (rec .ready none).pending = none := by rw [hrec]
      rw [hpe] at hrun
      exact ⟨none, _, hrun, hdone _ _ (Nat.le_refl _) (hJ.putObj _ j2 (by omega) l2 rfl) ((World.putObj_heap_other (by omega)).trans d2)⟩
    · have hrun := run_endLoop (P := Try.prog) l2 (by rw [hrec]; simp)
      have hpe : (rec .done (some c)).pending = some c := by rw [hrec]
      rw [hpe] at hrun
      exact ⟨some c, _, hrun, hstop _ c _ (Nat.le_refl _) (hJx.putObj _ j2 (by omega) l2 rfl) ((World.putObj_heap_other (by omega)).trans d2)⟩
end

end Go.Proofs.Ytkfoddblgdmabaa.tr

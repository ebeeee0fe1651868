/- Layer 10: the tree's insert: an entry at an end, and the splits above it. -/
import Derived.Test.YtkfoddblgdmabaaTrRound
import Derived.Test.YtkfoddblgdmabaaTrPut
import Derived.Test.YtkfoddblgdmabaaTrRepair
namespace Go.Proofs.Ytkfoddblgdmabaa.tr
open Go.RowKit Go.Shelf

attribute [local go_sem] Oper.semAt_some

/-- A tree's block. -/
def tobj (f R s : Nat) : Obj := .cells #[.int .i64 (f : Int), .pointer (some ⟨R, 0, none⟩), .int .i64 (s : Int)] 70 (0, 0)

theorem alloc_one (U : World) (o o1 : Obj) : ((U.alloc o1).alloc o).heap[U.heap.size + 1]? = some o := by
  have := heap_alloc_new (U.alloc o1) o
  rwa [World.size_alloc] at this
theorem alloc_first (U : World) (o o1 o2 : Obj) : (((U.alloc o1).alloc o2).alloc o).heap[U.heap.size]? = some o1 := by
  have h1 : (U.alloc o1).heap.size = U.heap.size + 1 := World.size_alloc _ _
  have h2 : ((U.alloc o1).alloc o2).heap.size = U.heap.size + 1 + 1 := by rw [World.size_alloc, World.size_alloc]
  rw [heap_alloc_old _ _ (by omega), heap_alloc_old _ _ (by omega), heap_alloc_new]
theorem alloc_second (U : World) (o o1 o2 : Obj) : (((U.alloc o1).alloc o2).alloc o).heap[U.heap.size + 1]? = some o2 := by
  have h2 : ((U.alloc o1).alloc o2).heap.size = U.heap.size + 1 + 1 := by rw [World.size_alloc, World.size_alloc]
  rw [heap_alloc_old _ _ (by omega)]
  exact alloc_one _ _ _
theorem alloc_two (U : World) (o o1 o2 : Obj) : (((U.alloc o1).alloc o2).alloc o).heap[U.heap.size + 1 + 1]? = some o := by
  have := heap_alloc_new ((U.alloc o1).alloc o2) o
  rwa [World.size_alloc, World.size_alloc] at this
/-- What is asked where only the common end of a region is met. -/
def onlyN (Q : Exit → Act → World → Prop) : Exit → Act → World → Prop
  | .normal, a, w => Q .normal a w
  | _, _, _ => False
theorem onlyN_to {Q : Exit → Act → World → Prop} : ∀ e a w, onlyN Q e a w → Q e a w := by
  intro e a w h
  cases e with
  | normal => exact h
  | _ => exact h.elim
theorem fr_putObj {F : Nat → Prop} {w W : World} {D : Nat} {o : Obj} (h : Fr F w W) (hD : w.heap.size ≤ D) : Fr F w (W.putObj D o) :=
  ⟨h.os, h.tape, h.output, Nat.le_trans h.size (by simp), fun k hk q => (World.putObj_heap_other (by omega)).trans (h.block k hk q)⟩
theorem zip2 (a b : Nat) (x y : Value) : (#[a, b] : Array Nat).zip #[x, y] = #[(a, x), (b, y)] := by simp
theorem rev_drop {α : Type} {l : List α} {k : Nat} {q : α} (h : l.reverse[k]? = some q) : l.drop (l.length - (k + 1)) = q :: l.drop (l.length - k) := by
  have hk : k < l.length := by have := (List.getElem?_eq_some_iff.1 h).1; simpa using this
  rw [List.getElem?_reverse hk] at h
  have h2 := (cut_in _ _ _ h).1
  have e : l.drop (l.length - 1 - k) = q :: l.drop (l.length - 1 - k + 1) := by
    have h3 := List.drop_eq_getElem_cons (l := l) (i := l.length - 1 - k) (by omega)
    rw [h3]
    rw [List.getElem?_eq_getElem (by omega)] at h
    simp only [Option.some.injEq] at h
    rw [h]
  rw [show l.length - (k + 1) = l.length - 1 - k by omega, e, show l.length - 1 - k + 1 = l.length - k by omega]

theorem nobj_cells (ev kv : Value) : (nobj ev kv).isCells = true := rfl
section
variable {w W W' W4 : World} {B : Nat} {M M' : Mp} {f R H xb : Nat} {up : List (Nat × Nat)} {T : List Ent}
theorem Mm.cells (m : Mm W B M) {k : Nat} (h : Ft M k) : ∃ o : Obj, W.heap[k]? = some o ∧ o.isCells = true := by
  obtain ⟨b, n, hn, rfl | e | e⟩ := h
  · exact ⟨_, (m.top _ _ hn).1, rfl⟩
  · obtain ⟨c, q⟩ := row_obj (m.ents _ _ hn) e
    exact ⟨_, q, rfl⟩
  · obtain ⟨c, q⟩ := row_obj (m.kids _ _ hn) e
    exact ⟨_, q, rfl⟩
theorem Mm.grown (m : Mm W B M) {row : Option Nat} (hg : W.grownBy W' row) (hr : ∀ r, row = some r → ∃ o : Obj, W.heap[r]? = some o ∧ o.isCells = false) : Mm W' B M :=
  m.kept (fun k hk => hg.block k (m.lt hk).2 (fun e => by
    obtain ⟨o, h1, h2⟩ := hr k e.symm
    obtain ⟨o', h3, h4⟩ := m.cells hk
    rw [h1] at h3; cases h3
    rw [h2] at h4; cases h4))
theorem Mm.not_tree (m : Mm W B M) {k s : Nat} (h : Ft M k) : W.heap[k]? ≠ some (tobj f R s) := by
  intro hw
  obtain ⟨b, n, hn, rfl | e | e⟩ := h
  · rw [(m.top _ _ hn).1] at hw; simp [nobj, tobj] at hw
  · obtain ⟨c, q⟩ := row_obj (m.ents _ _ hn) e
    rw [q] at hw; simp [tobj] at hw
  · obtain ⟨c, q⟩ := row_obj (m.kids _ _ hn) e
    rw [q] at hw; simp [tobj] at hw
theorem Mm.not_spot (m : Mm W B M) {k : Nat} {cs : Array Value} (h : Ft M k) : W.heap[k]? ≠ some (.cells cs 76 (0, 0)) := by
  intro hw
  obtain ⟨b, n, hn, rfl | e | e⟩ := h
  · rw [(m.top _ _ hn).1] at hw; simp [nobj] at hw
  · obtain ⟨c, q⟩ := row_obj (m.ents _ _ hn) e
    rw [q] at hw; simp at hw
  · obtain ⟨c, q⟩ := row_obj (m.kids _ _ hn) e
    rw [q] at hw; simp at hw
theorem keeps_alloc (D : Nat) (W : World) (o : Obj) : KeepsFrom D W (W.alloc o) := ⟨by simp, fun k o' _ hk _ => (heap_alloc_old _ _ (Array.getElem?_eq_some_iff.1 hk).1).trans hk⟩
/-- What goes through the rounds of an insertion. -/
structure InsJ (W4 : World) (B : Nat) (M : Mp) (f R H xb : Nat) (up : List (Nat × Nat)) (T : List Ent) (W : World) : Prop where
  ex : ∃ M' e rv, Mm W B M' ∧ W.heap[xb + 1]? = some (.cells #[.string e.key, .int .i64 e.n] 58 (0, 0)) ∧ W.heap[xb + 1 + 1]? = some (.cells #[rv] 65 (0, 0)) ∧ Fr (fun k => Ft M k ∨ k = xb + 1 ∨ k = xb + 1 + 1) W4 W ∧ (∀ k, Ft M' k → Ft M k ∨ W4.heap.size ≤ k) ∧ Rdy M' f R H up e rv T
structure InsX (W4 : World) (B : Nat) (M : Mp) (f R H xb : Nat) (T : List Ent) (c : Code) (W : World) : Prop where
  ret : c = .ret
  ex : ∃ M' F', Mm W B M' ∧ Fr (fun k => Ft M k ∨ k = xb + 1 ∨ k = xb + 1 + 1) W4 W ∧ (∀ k, Ft M' k → Ft M k ∨ W4.heap.size ≤ k) ∧ Gd M' f R H T F'
theorem Fr.grown {F : Nat → Prop} (h : Fr F W4 W) {row : Option Nat} (hg : W.grownBy W' row) (hr : ∀ r, row = some r → W4.heap.size ≤ r ∧ ∃ o : Obj, W.heap[r]? = some o ∧ o.isCells = false) : Fr F W4 W' :=
  h.trans (Fr.of_grown hg) (fun i hi e => by have := (hr i e).1; omega)
theorem InsJ.grown (hx : xb + 4 = W4.heap.size) (j : InsJ W4 B M f R H xb up T W) {row : Option Nat} (hg : W.grownBy W' row) (hr : ∀ r, row = some r → W4.heap.size ≤ r ∧ ∃ o : Obj, W.heap[r]? = some o ∧ o.isCells = false) : InsJ W4 B M f R H xb up T W' := by
  obtain ⟨M', e, rv, h1, h2, h3, h4, h5, h6⟩ := j.ex
  have hs := h4.size
  exact ⟨M', e, rv, h1.grown hg (fun r q => (hr r q).2), (hg.block _ (by omega) (fun q => by have := (hr _ q.symm).1; omega)).trans h2, (hg.block _ (by omega) (fun q => by have := (hr _ q.symm).1; omega)).trans h3, h4.grown hg hr, h5, h6⟩
theorem InsX.grown {c : Code} (j : InsX W4 B M f R H xb T c W) {row : Option Nat} (hg : W.grownBy W' row) (hr : ∀ r, row = some r → W4.heap.size ≤ r ∧ ∃ o : Obj, W.heap[r]? = some o ∧ o.isCells = false) : InsX W4 B M f R H xb T c W' := by
  obtain ⟨h0, M', F', h1, h4, h5, h6⟩ := j
  exact ⟨h0, M', F', h1.grown hg (fun r q => (hr r q).2), h4.grown hg hr, h5, h6⟩
/-- What a round keeps. -/
theorem keeps_of (m : Mm W B M') (hx : xb + 4 = W4.heap.size) (h : Fr (fun k => Ft M' k ∨ k = xb + 1 ∨ k = xb + 1 + 1) W W') : KeepsFrom W4.heap.size W W' :=
  ⟨h.size, fun k o hk ho hc => (h.block k (Array.getElem?_eq_some_iff.1 ho).1 (fun q => by
    rcases q with q | q | q
    · obtain ⟨o', h3, h4⟩ := m.cells q
      rw [ho] at h3; cases h3
      rw [hc] at h4; cases h4
    · omega
    · omega)).trans ho⟩
end

set_option maxHeartbeats 1600000 in
theorem backward_any (w : World) (v : Value) (hv : ∃ a n c, v = .slice a n c) : Calls Try.prog 41 #[v] w fun e w' => e = .returned (.func (.func 55) #[] #[.pointer (some ⟨w.heap.size, 0, none⟩)]) ∧ w' = w.alloc (.cells #[v] 71) := by
  obtain ⟨a, n, c, rfl⟩ := hv
  go_enter Try.func41, Try.ntmps41
  go_wp2_with fail
  go_ret
  exact ⟨rfl, rfl⟩

set_option maxHeartbeats 3200000 in
set_option maxRecDepth 100000 in
theorem insert_any {w : World} {B : Nat} {M : Mp} {f R H s tb : Nat} {T' : List Ent} {x : Ent} {v : Value} {up : List (Nat × Nat)} {q : Nat × Nat} (m : Mm w B M) (hB : B ≤ w.heap.size) (ht : w.heap[tb]? = some (tobj f R s)) (hr : RowS w 0 v (up.reverse ++ [q])) (hv : ∀ k, v.ownBlock = some k → ¬ Ft M k ∧ k ≠ tb)
    (hup : up.length ≤ 20000) (hf3 : 3 ≤ f) (hf : f ≤ 64) (hs : s ≤ 20000) (hT : T'.length ≤ 20000) (hrdy : ∀ rv, Rdy M f R H (q :: up) x rv T') (hsrt : Srt T') :
    Calls Try.prog 32 #[.pointer (some ⟨tb, 0, none⟩), v, .agg #[.string x.key, .int .i64 x.n]] w fun e w' => e = .returned (.tuple #[]) ∧ ∃ M' R' H' F', Mm w' B M' ∧ w'.heap[tb]? = some (tobj f R' (s + 1)) ∧ Gd M' f R' H' T' F' ∧ Fr (fun k => Ft M k ∨ k = tb) w w' ∧ ∀ k, Ft M' k → Ft M k ∨ w.heap.size ≤ k := by
  obtain ⟨t0, t1, t2, tf2⟩ : w.cell? ⟨tb, 0, none⟩ = some (.int .i64 (f : Int)) ∧ w.cell? ⟨tb, 1, none⟩ = some (.pointer (some ⟨R, 0, none⟩)) ∧ w.cell? ⟨tb, 2, none⟩ = some (.int .i64 (s : Int)) ∧ w.frozen? ⟨tb, 2, none⟩ = false := ⟨(cell_obj ht).1, (cell_obj ht).1, (cell_obj ht).1, (cell_obj ht).2⟩
  have hW2 : Below w.heap.size w ((w.alloc (.cells #[.pointer (some ⟨tb, 0, none⟩)] 23)).alloc (.cells #[.string x.key, .int .i64 x.n] 58)) := below2 (below_alloc1 _ _) (below_alloc1 _ _)
  have htb : tb < w.heap.size := (Array.getElem?_eq_some_iff.1 ht).1
  have ht2 := (hW2.block tb htb).trans ht
  have u2 : ((w.alloc (.cells #[.pointer (some ⟨tb, 0, none⟩)] 23)).alloc (.cells #[.string x.key, .int .i64 x.n] 58)).cell? ⟨tb, 2, none⟩ = some (.int .i64 (s : Int)) ∧ ((w.alloc (.cells #[.pointer (some ⟨tb, 0, none⟩)] 23)).alloc (.cells #[.string x.key, .int .i64 x.n] 58)).frozen? ⟨tb, 2, none⟩ = false := cell_obj (j := 2) ht2
  obtain ⟨c2, f2⟩ := u2
  have hvs : ∃ a n c, v = .slice a n c := by
    obtain ⟨a, c, e, _⟩ := hr.len
    exact ⟨a, _, c, e⟩
  have hsz : (0 : Int) ≤ (s : Int) ∧ (s : Int) ≤ 20000 := by omega
  obtain ⟨hs0, hs1⟩ := hsz
  refine (callsIn_wide (n := 5)).1 ?_
  refine callsIn_of_wp_marks Try.func32 rfl trivial ?_ rfl
  simp only [Try.ntmps32, List.size_toArray, List.length_cons, List.length_nil, Nat.reduceAdd, Nat.reduceSub, Array.replicate_succ, Array.replicate_zero, List.push_toArray, List.append_toArray, List.nil_append, List.cons_append]
  gi_wp2_with (refine ⟨trivial, ?_⟩; gi_at_call 41; refine (callsIn_wide.2 (backward_any _ _ hvs)).mono ?_; rintro e w' ⟨rfl, h3⟩; rw [h3]; clear h3 w')
  have hfr4 : Fr (fun k => k = tb) w ((((((w.setCell ⟨tb, 2, none⟩ (.int .i64 ((s : Int) + 1))).alloc (.cells #[.pointer (some ⟨tb, 0, none⟩)] 23)).alloc (.cells #[.string x.key, .int .i64 x.n] 58)).alloc (.cells #[.pointer none] 65)).alloc (.cells #[v] 71))) := (((((Fr.set (F := fun k => k = tb) (p := ⟨tb, 2, none⟩) (Fr.refl _ w) (Or.inl rfl) _).alloc _).alloc _).alloc _).alloc _)
  have hw4 : ∃ W4, W4 = (((((w.setCell ⟨tb, 2, none⟩ (.int .i64 ((s : Int) + 1))).alloc (.cells #[.pointer (some ⟨tb, 0, none⟩)] 23)).alloc (.cells #[.string x.key, .int .i64 x.n] 58)).alloc (.cells #[.pointer none] 65)).alloc (.cells #[v] 71)) := ⟨_, rfl⟩
  obtain ⟨W4, hw4⟩ := hw4
  rw [← hw4] at hfr4 ⊢
  have hsz4 : w.heap.size + 4 = W4.heap.size := by rw [hw4]; simp
  obtain ⟨b0, b1, b2, b3, bt⟩ : W4.heap[w.heap.size]? = some (.cells #[.pointer (some ⟨tb, 0, none⟩)] 23 (0, 0)) ∧ W4.heap[w.heap.size + 1]? = some (.cells #[.string x.key, .int .i64 x.n] 58 (0, 0)) ∧ W4.heap[w.heap.size + 1 + 1]? = some (.cells #[.pointer none] 65 (0, 0)) ∧ W4.heap[w.heap.size + 1 + 1 + 1]? = some (.cells #[v] 71 (0, 0)) ∧ W4.heap[tb]? = some (tobj f R (s + 1)) := by
    have hq : (w.setCell ⟨tb, 2, none⟩ (.int .i64 ((s : Int) + 1))).heap.size = w.heap.size := by simp
    generalize hU : w.setCell ⟨tb, 2, none⟩ (.int .i64 ((s : Int) + 1)) = U at *
    have hUt : U.heap[tb]? = some (tobj f R (s + 1)) := by rw [← hU]; exact heap_setCell_same w tb 2 _ _ _ ht
    rw [hw4, ← hq]
    refine ⟨?_, ?_, ?_, ?_, ?_⟩
    · rw [heap_alloc_old _ _ (by simp; omega), heap_alloc_old _ _ (by simp; omega), heap_alloc_old _ _ (by simp), heap_alloc_new]
    · rw [heap_alloc_old _ _ (by simp), heap_alloc_old _ _ (by simp)]
      have := heap_alloc_new (U.alloc (.cells #[.pointer (some ⟨tb, 0, none⟩)] 23)) (.cells #[.string x.key, .int .i64 x.n] 58)
      rwa [World.size_alloc] at this
    · rw [heap_alloc_old _ _ (by simp)]
      have := heap_alloc_new ((U.alloc (.cells #[.pointer (some ⟨tb, 0, none⟩)] 23)).alloc (.cells #[.string x.key, .int .i64 x.n] 58)) (.cells #[.pointer none] 65)
      rwa [World.size_alloc, World.size_alloc] at this
    · have := heap_alloc_new (((U.alloc (.cells #[.pointer (some ⟨tb, 0, none⟩)] 23)).alloc (.cells #[.string x.key, .int .i64 x.n] 58)).alloc (.cells #[.pointer none] 65)) (.cells #[v] 71)
      rwa [World.size_alloc, World.size_alloc, World.size_alloc] at this
    · rw [heap_alloc_old _ _ (by simp; omega), heap_alloc_old _ _ (by simp; omega), heap_alloc_old _ _ (by simp; omega), heap_alloc_old _ _ (by omega)]
      exact hUt
  clear hw4 hW2 ht2 c2 f2 t0 t1 t2 tf2
  have hM4 : ∀ k, Ft M k → k < w.heap.size ∧ k ≠ tb := fun k hk => ⟨(m.lt hk).2, fun e => m.not_tree (f := f) (R := R) (s := s) hk (by rw [e]; exact ht)⟩
  have m4 : Mm W4 B M := m.kept (fun k hk => hfr4.block k (hM4 k hk).1 (hM4 k hk).2)
  obtain ⟨zs, hzs⟩ : ∃ zs, up.reverse ++ [q] = zs := ⟨_, rfl⟩
  have hz2 : zs = (q :: up).reverse := by rw [← hzs]; simp
  have hzl : zs.length = (q :: up).length := by rw [hz2]; simp
  refine wp_backward (Bs := w.heap.size + 1 + 1 + 1) (zs := zs) (v := v) rfl rfl (by rw [hzl]; simp; omega) (fun k W => InsJ W4 B M f R H w.heap.size ((q :: up).drop (zs.length - k)) T' W) (fun c W => InsX W4 B M f R H w.heap.size T' c W) (fun k X Y row hj hg hr => hj.grown hsz4 hg hr) (fun c X Y row hj hg hr => hj.grown hg hr) ?_ ?_
    (fun k a' W => ∃ Bx q', zs[k]? = some q' ∧ a' = { tmps := #[.pointer (some ⟨tb, 0, none⟩), v, .agg #[.string x.key, .int .i64 x.n], .pointer (some ⟨w.heap.size, 0, none⟩), undef, .pointer (some ⟨w.heap.size + 1, 0, none⟩), .pointer (some ⟨w.heap.size + 1 + 1, 0, none⟩), undef, .pointer (some ⟨Bx, 0, none⟩), .pointer (some ⟨tb, 0, none⟩), .pointer (some ⟨tb, 0, none⟩), .pointer (some ⟨tb, 2, none⟩), .int .i64 (s : Int), .int .i64 ((s : Int) + 1), .pointer (some ⟨tb, 0, none⟩), .pointer (some ⟨tb, 2, none⟩), v, .func (.func 55) #[] #[.pointer (some ⟨w.heap.size + 1 + 1 + 1, 0, none⟩)], .int .i64 (k : Int), .agg #[.pointer (some ⟨q'.1, 0, none⟩), .int .i64 (q'.2 : Int)], undef, undef, undef, undef, undef, undef, undef, undef, undef, undef, undef, undef, undef, undef, undef, undef, undef, undef, undef, undef, undef, undef, undef, undef, undef, undef, undef, undef, undef, undef, undef, undef, undef, undef], defers := [] } ∧ W.heap[Bx]? = some (.cells #[.pointer (some ⟨q'.1, 0, none⟩), .int .i64 (q'.2 : Int)] 76 (0, 0)) ∧ W4.heap.size ≤ Bx) ?_ ?_ ?_ ?_ ?_
  · -- the way lies as it lay
    rintro k W ⟨M', e, rv, h1, h2, h3, h4, h5, h6⟩
    have hb3 := (h4.block _ (by omega) (by
      rintro (g | g | g)
      · have := (hM4 _ g).1; omega
      · omega
      · omega)).trans b3
    rw [← hzs]
    refine ⟨(cell_obj hb3).1, (hr.kept (fun k e => hfr4.block k (hr.blk e).2 (hv k e).2)).kept (fun k e => ?_)⟩
    have hk := (hr.blk e).2
    exact h4.block k (by omega) (by
      rintro (g | g | g)
      · exact (hv k e).1 g
      · omega
      · omega)
  · -- at the start
    exact ⟨M, x, .pointer none, m4, b1, b2, Fr.refl _ _, fun k hk => Or.inl hk, by rw [Nat.sub_self]; exact hrdy _⟩
  · -- what the round's box says
    rintro k a' u X Y row ⟨Bx, q', h1, h2, h3, h4⟩ hg hrow
    exact ⟨Bx, q', h1, h2, (hg.block _ (Array.getElem?_eq_some_iff.1 h3).1 (fun q => by
      obtain ⟨o, g1, g2⟩ := (hrow _ q.symm).2
      rw [h3] at g1; cases g1; cases g2)).trans h3, h4⟩
  · intro l k q' W K hq' hj hK
    obtain ⟨q1, q2⟩ := q'
    rw [zip2]
    change Code.wpIn _ _ _ _ _ { tmps := #[.pointer (some ⟨tb, 0, none⟩), v, .agg #[.string x.key, .int .i64 x.n], .pointer (some ⟨w.heap.size, 0, none⟩), undef, .pointer (some ⟨w.heap.size + 1, 0, none⟩), .pointer (some ⟨w.heap.size + 1 + 1, 0, none⟩), undef, undef, .pointer (some ⟨tb, 0, none⟩), .pointer (some ⟨tb, 0, none⟩), .pointer (some ⟨tb, 2, none⟩), .int .i64 (s : Int), .int .i64 ((s : Int) + 1), .pointer (some ⟨tb, 0, none⟩), .pointer (some ⟨tb, 2, none⟩), v, .func (.func 55) #[] #[.pointer (some ⟨w.heap.size + 1 + 1 + 1, 0, none⟩)], .int .i64 (k : Int), .agg #[.pointer (some ⟨q1, 0, none⟩), .int .i64 (q2 : Int)], undef, undef, undef, undef, undef, undef, undef, undef, undef, undef, undef, undef, undef, undef, undef, undef, undef, undef, undef, undef, undef, undef, undef, undef, undef, undef, undef, undef, undef, undef, undef, undef, undef, undef], defers := [] } _
    clear hr hv hrdy hsrt ht hvs b0 b1 b2 b3 bt m m4 hfr4 hM4 hzs hz2
    gi_wp2
    refine hK _ _ ?_ ?_ ⟨W.heap.size, (q1, q2), hq', rfl, ?_, ?_⟩
    · exact keeps_alloc _ _ _
    · exact hj.grown hsz4 (World.grownBy_alloc W _ none) (fun r e => by cases e)
    · exact heap_alloc_new _ _
    · obtain ⟨_, _, _, _, _, _, h4, _⟩ := hj.ex
      exact h4.size
  · -- a round
    intro l k q' a' W hl hq' hj ⟨Bx, q2, e1, ha, hBx, hBs⟩
    rw [hq'] at e1; cases e1
    subst ha
    obtain ⟨q1, q2⟩ := q'
    dsimp only
    obtain ⟨M', e, rv, h1, h2, h3, h4, h5, h6⟩ := hj.ex
    rw [hz2] at hq'
    rw [hzl, rev_drop hq', ← hzl] at h6
    obtain ⟨r, n, hn, hi, hle, hks, hmo⟩ := h6
    have hWs := h4.size
    have nfx : ∀ j, j < 4 → ¬ Ft M' (w.heap.size + j) := fun j hj g => by
      rcases h5 _ g with g | g
      · have := (hM4 _ g).1; omega
      · omega
    have nfb : ¬ Ft M' Bx := fun g => h1.not_spot g hBx
    have nft : ¬ Ft M' tb := fun g => by
      rcases h5 _ g with g | g
      · exact (hM4 _ g).2 rfl
      · omega
    have hins := ninsert_any h1 (by omega) hn (by omega) e q2 hi r rv hks
    have HB0 : Hid (W.heap[w.heap.size]? = some (.cells #[.pointer (some ⟨tb, 0, none⟩)] 23 (0, 0)) ∧ W.heap[tb]? = some (tobj f R (s + 1))) := by
      constructor
      · exact (h4.block _ (by omega) (by
          rintro (g | g | g)
          · have := (hM4 _ g).1; omega
          · omega
          · omega)).trans b0
      · exact (h4.block _ (by omega) (by
          rintro (g | g | g)
          · exact (hM4 _ g).2 rfl
          · omega
          · omega)).trans bt
    have c10 := (cell_obj (j := 0) hBx).1
    have c11 := (cell_obj (j := 1) hBx).1
    have c20 := (cell_obj (j := 0) h2).1
    have c21 := (cell_obj (j := 1) h2).1
    have c30 := (cell_obj (j := 0) h3).1
    have HJ : Hid (Mm W B M' ∧ Fr (fun k => Ft M k ∨ k = w.heap.size + 1 ∨ k = w.heap.size + 1 + 1) W4 W ∧ ∀ k, Ft M' k → Ft M k ∨ W4.heap.size ≤ k) := ⟨h1, h4, h5⟩
    have HH : Hid (W.heap[Bx]? = some (.cells #[.pointer (some ⟨q1, 0, none⟩), .int .i64 (q2 : Int)] 76 (0, 0)) ∧ W.heap[w.heap.size + 1]? = some (.cells #[.string e.key, .int .i64 e.n] 58 (0, 0)) ∧ W.heap[w.heap.size + 1 + 1]? = some (.cells #[rv] 65 (0, 0))) := ⟨hBx, h2, h3⟩
    have HX : Hid ((∀ j, j < 4 → ¬ Ft M' (w.heap.size + j)) ∧ ¬ Ft M' Bx ∧ ¬ Ft M' tb) := ⟨nfx, nfb, nft⟩
    have HZ : Hid (W4.heap.size ≤ W.heap.size ∧ w.heap.size + 4 = W4.heap.size ∧ B ≤ w.heap.size) := ⟨hWs, hsz4, hB⟩
    have HMO : Hid (∀ ev kv, Mo (M'.put q1 ⟨ev, kv, insL q2 e n.es, insK q2 r n.ks⟩) f R H ((q :: up).drop (zs.length - k)) q1 ⟨ev, kv, insL q2 e n.es, insK q2 r n.ks⟩ T') := hmo
    have HS : Hid (Srt T') := hsrt
    clear m m4 ht hr hv hrdy hsrt hfr4 hM4 b0 b1 b2 b3 bt hzs hz2 hvs hq' hj h1 h2 h3 h4 h5 hmo hBx nfx nfb nft hWs hks hle hi hl hBs
    gi_wp2_with (refine ⟨trivial, ?_⟩; gi_at_call 45; refine (CallsIn.inRound l (callsIn_wide.2 hins)).mono ?_; clear hins; rintro e1 w1 ⟨rfl, ev1, kv1, m1, to1⟩)
    have hO := HMO.out ev1 kv1
    obtain ⟨nO, hnO⟩ : ∃ nO : Nr, nO = ⟨ev1, kv1, insL q2 e n.es, insK q2 r n.ks⟩ := ⟨_, rfl⟩
    rw [← hnO] at m1 to1 hO
    obtain ⟨M1, hM1⟩ : ∃ M1, M'.put q1 nO = M1 := ⟨_, rfl⟩
    rw [hM1] at m1 to1 hO
    have hOl := hO.len
    obtain ⟨d10, d20, d30, d00, dt0, fr1⟩ : w1.heap[Bx]? = some (.cells #[.pointer (some ⟨q1, 0, none⟩), .int .i64 (q2 : Int)] 76 (0, 0)) ∧ w1.heap[w.heap.size + 1]? = some (.cells #[.string e.key, .int .i64 e.n] 58 (0, 0)) ∧ w1.heap[w.heap.size + 1 + 1]? = some (.cells #[rv] 65 (0, 0)) ∧ w1.heap[w.heap.size]? = some (.cells #[.pointer (some ⟨tb, 0, none⟩)] 23 (0, 0)) ∧ w1.heap[tb]? = some (tobj f R (s + 1)) ∧ Fr (fun k => Ft M' k) W w1 := by
      obtain ⟨g1, g2, g3⟩ := HH.out
      obtain ⟨x1, x2, x3⟩ := HX.out
      have lt : ∀ {k : Nat} {o : Obj}, W.heap[k]? = some o → k < W.heap.size := fun h => (Array.getElem?_eq_some_iff.1 h).1
      exact ⟨(to1.fr.block _ (lt g1) x2).trans g1, (to1.fr.block _ (lt g2) (x1 1 (by omega))).trans g2, (to1.fr.block _ (lt g3) (x1 2 (by omega))).trans g3, (to1.fr.block _ (lt HB0.out.1) (x1 0 (by omega))).trans HB0.out.1, (to1.fr.block _ (lt HB0.out.2) x3).trans HB0.out.2, to1.fr⟩
    clear c10 c11 c20 c21 c30 hnO
    have c10 := (cell_obj (j := 0) d10).1
    have c00 := (cell_obj (j := 0) d00).1
    have ct0 := (cell_obj (j := 0) dt0).1
    have hmany := fun k => many_any (w := w1.drewN k) (m1.kept (fun _ _ => rfl)) hO.at' (by omega) f (by omega)
    refine quiet_round (by kernel_rfl) (by kernel_rfl) (by kernel_rfl) (by rintro ⟨_, _, h⟩; exact h) ?_
    repeat (quiet_step (exact Calls.quiet_of_same (hmany _)))
    refine wpQuiet_nil ?_
    intro _ hw'
    obtain ⟨nq, hw''⟩ := hw'
    subst hw''
    have HXM : Hid (∀ k, Ft M1 k → Ft M' k ∨ W.heap.size ≤ k) := to1.ft
    have m1d : Mm (w1.drewN nq) B M1 := m1.kept (fun _ _ => rfl)
    have fr1d : Fr (fun k => Ft M' k) W (w1.drewN nq) := ⟨fr1.1, fr1.2, fr1.3, fr1.4, fr1.5⟩
    change (w1.drewN nq).heap[Bx]? = _ at d10
    change (w1.drewN nq).heap[w.heap.size + 1]? = _ at d20
    change (w1.drewN nq).heap[w.heap.size + 1 + 1]? = _ at d30
    clear hmany m1 to1 fr1 c00 ct0 c10 d00 dt0
    generalize w1.drewN nq = w1d at *
    have HF4 : Hid (Fr (fun k => Ft M k ∨ k = w.heap.size + 1 ∨ k = w.heap.size + 1 + 1) W4 w1d) := HJ.out.2.1.trans fr1d (fun i hi g => Or.inl ((HJ.out.2.2 i g).elim id (fun q => by omega)))
    have HFT : Hid (∀ k, Ft M1 k → Ft M k ∨ W4.heap.size ≤ k) := fun k hk => (HXM.out k hk).elim (HJ.out.2.2 k) (fun q => Or.inr (by have := HZ.out.1; omega))
    have HFW : Hid (Fr (fun k => Ft M' k ∨ k = w.heap.size + 1 ∨ k = w.heap.size + 1 + 1) W w1d) := fr1d.weak (fun _ _ g => Or.inl g)
    by_cases hmn : f < nO.es.length + 1
    · have hdec : decide (f < nO.es.length + 1) = true := decide_eq_true hmn
      rw [hdec]
      obtain ⟨hf2, hhf⟩ : ∃ hf2, nO.es.length / 2 = hf2 := ⟨_, rfl⟩
      obtain ⟨y, hy⟩ : ∃ y, nO.es[hf2]? = some y := ⟨_, List.getElem?_eq_getElem (by omega)⟩
      have hsp := split_any m1d (by have := fr1d.size; have := HZ.out; omega) hO.at' (by omega) hhf (by omega) hOl.2 hy
      have HSP : Hid (∀ (r : Nat) (nl nr : Nr), M1 r = none → nl.es = nO.es.take hf2 → nl.ks = nO.ks.take (hf2 + 1) → nr.es = nO.es.drop (hf2 + 1) → nr.ks = nO.ks.drop (hf2 + 1) → Pd ((M1.put q1 nl).put r nr) f R H ((q :: up).drop (zs.length - k)) q1 r y T') := fun r nl nr h1 h2 h3 h4 h5 => hO.split hmn hhf hy h1 h2 h3 h4 h5
      have c10 := (cell_obj (j := 0) d10).1
      have HN : Hid (∀ w2, Fr (Ft M1) w1d w2 → w2.heap[w.heap.size + 1]? = some (.cells #[.string e.key, .int .i64 e.n] 58 (0, 0)) ∧ w2.heap[w.heap.size + 1 + 1]? = some (.cells #[rv] 65 (0, 0))) := fun w2 g => by
        have lt : ∀ {k : Nat} {o : Obj}, w1d.heap[k]? = some o → k < w1d.heap.size := fun h => (Array.getElem?_eq_some_iff.1 h).1
        have hz := HZ.out
        refine ⟨(g.block _ (lt d20) (fun q => ?_)).trans d20, (g.block _ (lt d30) (fun q => ?_)).trans d30⟩
        · rcases HXM.out _ q with q | q
          · exact HX.out.1 1 (by omega) q
          · omega
        · rcases HXM.out _ q with q | q
          · exact HX.out.1 2 (by omega) q
          · omega
      clear hO hOl hy hhf
      gi_wp2_with (refine ⟨trivial, ?_⟩; gi_at_call 47; refine (CallsIn.inRound l (callsIn_wide.2 hsp)).mono ?_; clear hsp; rintro e1 w2 ⟨r2, nl, nr, rfl, hr2, g1, g2, g3, g4, m2, to2⟩; obtain ⟨s20, s30⟩ := HN.out w2 to2.fr; obtain ⟨z1, z2⟩ := cell_obj (j := 0) s20; obtain ⟨z3, z4⟩ := cell_obj (j := 1) s20; obtain ⟨z5, z6⟩ := cell_obj (j := 0) s30)
      have hz := HZ.out
      have HA : Fr (fun k => Ft M1 k ∨ k = w.heap.size + 1 ∨ k = w.heap.size + 1 + 1) w1d (((w2.setCell ⟨w.heap.size + 1, 0, none⟩ (.string y.key)).setCell ⟨w.heap.size + 1, 1, none⟩ (.int .i64 y.n)).setCell ⟨w.heap.size + 1 + 1, 0, none⟩ (.pointer (some ⟨r2, 0, none⟩))) :=
        Fr.set (F := fun k => Ft M1 k ∨ k = w.heap.size + 1 ∨ k = w.heap.size + 1 + 1) (p := ⟨w.heap.size + 1 + 1, 0, none⟩) (Fr.set (F := fun k => Ft M1 k ∨ k = w.heap.size + 1 ∨ k = w.heap.size + 1 + 1) (p := ⟨w.heap.size + 1, 1, none⟩) (Fr.set (F := fun k => Ft M1 k ∨ k = w.heap.size + 1 ∨ k = w.heap.size + 1 + 1) (p := ⟨w.heap.size + 1, 0, none⟩) (to2.fr.weak (fun _ _ g => Or.inl g)) (Or.inl (Or.inr (Or.inl rfl))) _) (Or.inl (Or.inr (Or.inl rfl))) _) (Or.inl (Or.inr (Or.inr rfl))) _
      have hM2 : ∀ k, Ft ((M1.put q1 nl).put r2 nr) k → Ft M k ∨ W4.heap.size ≤ k := fun k hk => (to2.ft k hk).elim (HFT.out k) (fun q => Or.inr (by have := fr1d.size; omega))
      have hM2' : ∀ k, Ft ((M1.put q1 nl).put r2 nr) k → k ≠ w.heap.size + 1 ∧ k ≠ w.heap.size + 1 + 1 := fun k hk => by
        have h4 : ∀ j, j < 4 → k ≠ w.heap.size + j := fun j hj e => by
          rcases to2.ft k hk with g | g
          · rcases HXM.out k g with g | g
            · exact HX.out.1 j hj (e ▸ g)
            · omega
          · have := fr1d.size; omega
        exact ⟨h4 1 (by omega), h4 2 (by omega)⟩
      refine ⟨keeps_of HJ.out.1 hz.2.1 (HFW.out.trans HA (fun i hi g => ?_)), ⟨(M1.put q1 nl).put r2 nr, y, .pointer (some ⟨r2, 0, none⟩), m2.kept (fun k hk => ?_), ?_, ?_, HF4.out.trans HA (fun i hi g => ?_), hM2, (HSP.out r2 nl nr hr2 g1 g2 g3 g4).rdy⟩⟩
      · rcases g with g | g
        · exact (HXM.out i g).elim Or.inl (fun q => by omega)
        · exact Or.inr g
      · obtain ⟨k1, k2⟩ := hM2' k hk
        rw [set_other k2, set_other k1, set_other k1]
      · rw [set_other (by omega)]
        exact heap_setCell_same _ _ 1 _ _ _ (heap_setCell_same _ _ 0 _ _ _ s20)
      · have h0 : ((w2.setCell ⟨w.heap.size + 1, 0, none⟩ (.string y.key)).setCell ⟨w.heap.size + 1, 1, none⟩ (.int .i64 y.n)).heap[w.heap.size + 1 + 1]? = some (.cells #[rv] 65 (0, 0)) := by
          rw [set_other (by omega), set_other (by omega)]
          exact s30
        exact heap_setCell_same _ _ 0 _ _ _ h0
      · rcases g with g | g
        · exact (HFT.out i g).elim Or.inl (fun q => by omega)
        · exact Or.inr g
    · have hdec : decide (f < nO.es.length + 1) = false := decide_eq_false hmn
      rw [hdec]
      gi_wp2
      refine ⟨keeps_of HJ.out.1 HZ.out.2.1 HFW.out, rfl, M1, ?_⟩
      obtain ⟨Fx, hg⟩ := hO.good HS.out
      exact ⟨Fx, m1d, HF4.out, HFT.out, hg⟩
  · -- all spots done: a new root
    intro D W hD hj hK
    obtain ⟨M', e, rv, h1, h2, h3, h4, h5, h6⟩ := hj.ex
    rw [Nat.sub_zero, hzl, List.drop_length] at h6
    obtain ⟨r, rfl, htop⟩ := h6.top hsrt
    have hWs := h4.size
    have lt : ∀ {k : Nat} {o : Obj}, W4.heap[k]? = some o → k < W4.heap.size := fun h => (Array.getElem?_eq_some_iff.1 h).1
    have hc0 := (h4.block _ (lt b0) (by
      rintro (g | g | g)
      · have := (hM4 _ g).1; omega
      · omega
      · omega)).trans b0
    have hct := (h4.block _ (lt bt) (by
      rintro (g | g | g)
      · exact (hM4 _ g).2 rfl
      · omega
      · omega)).trans bt
    have CE : Hid (∀ U, Below W.heap.size W U → U.cell? ⟨w.heap.size, 0, none⟩ = some (.pointer (some ⟨tb, 0, none⟩)) ∧ (U.cell? ⟨w.heap.size + 1, 0, none⟩ = some (.string e.key) ∧ U.cell? ⟨w.heap.size + 1, 1, none⟩ = some (.int .i64 e.n)) ∧ U.cell? ⟨w.heap.size + 1 + 1, 0, none⟩ = some (.pointer (some ⟨r, 0, none⟩)) ∧ U.cell? ⟨tb, 1, none⟩ = some (.pointer (some ⟨R, 0, none⟩)) ∧ U.frozen? ⟨tb, 1, none⟩ = false) := fun U g => by
      have lt : ∀ {k : Nat} {o : Obj}, W.heap[k]? = some o → k < W.heap.size := fun h => (Array.getElem?_eq_some_iff.1 h).1
      have x0 := (g.block _ (lt hc0)).trans hc0
      have x1 := (g.block _ (lt h2)).trans h2
      have x2 := (g.block _ (lt h3)).trans h3
      have x3 := (g.block _ (lt hct)).trans hct
      exact ⟨(cell_obj (j := 0) x0).1, ⟨(cell_obj (j := 0) x1).1, (cell_obj (j := 1) x1).1⟩, (cell_obj (j := 0) x2).1, (cell_obj (j := 1) x3).1, (cell_obj (j := 1) x3).2⟩
    have hMD : ∀ k, Ft M' k → k ≠ D ∧ k ≠ tb ∧ k < W.heap.size := fun k hk => by
      refine ⟨fun e => ?_, fun e => h1.not_tree (f := f) (R := R) (s := s + 1) hk (by rw [e]; exact hct), (h1.lt hk).2⟩
      obtain ⟨o, g1, g2⟩ := h1.cells hk
      rw [e, hK] at g1; cases g1; cases g2
    have hDl : D < W.heap.size := (Array.getElem?_eq_some_iff.1 hK).1
    have HD : Hid (∀ (U : World) (u : Value), Below W.heap.size W U → (U.setCell ⟨tb, 1, none⟩ u).heap[D]? = some (.deferred (some []))) := fun U u g => by
      rw [set_other (by omega)]
      exact (g.block D hDl).trans hK
    have FIN : Hid (∀ (U : World) (nb be bk : Nat), Below W.heap.size W U → W.heap.size ≤ nb → W.heap.size ≤ be → W.heap.size ≤ bk → U.heap[nb]? = some (nobj (.slice (some ⟨be, 0, none⟩) 1 1) (.slice (some ⟨bk, 0, none⟩) 2 2)) → U.heap[be]? = some (.cells #[.string e.key, .int .i64 e.n] 58 (0, 0)) → U.heap[bk]? = some (.cells #[.pointer (some ⟨R, 0, none⟩), .pointer (some ⟨r, 0, none⟩)] 65 (0, 0)) →
        ∃ M'' R' H' F', Mm ((U.setCell ⟨tb, 1, none⟩ (.pointer (some ⟨nb, 0, none⟩))).putObj D (.deferred none)) B M'' ∧ ((U.setCell ⟨tb, 1, none⟩ (.pointer (some ⟨nb, 0, none⟩))).putObj D (.deferred none)).heap[tb]? = some (tobj f R' (s + 1)) ∧ Gd M'' f R' H' T' F' ∧ Fr (fun k => Ft M k ∨ k = tb) w ((U.setCell ⟨tb, 1, none⟩ (.pointer (some ⟨nb, 0, none⟩))).putObj D (.deferred none)) ∧ ∀ k, Ft M'' k → Ft M k ∨ w.heap.size ≤ k) := fun U nb be bk hU hnb hbe hbk p1 p2 p3 => by
      have rE : RowE U W.heap.size (.slice (some ⟨be, 0, none⟩) 1 1) [e] := GRow.of_obj (l := [e]) (c := 1) gE_len p2 hbe (Nat.le_refl _) (by decide) rfl rfl
      have rK : RowK U W.heap.size (.slice (some ⟨bk, 0, none⟩) 2 2) [R, r] := GRow.of_obj (l := [R, r]) (c := 2) gK_len p3 hbk (Nat.le_refl _) (by decide) rfl rfl
      obtain ⟨mn, tn, nn⟩ := h1.new (b := nb) (n' := ⟨.slice (some ⟨be, 0, none⟩) 1 1, .slice (some ⟨bk, 0, none⟩) 2 2, [e], [R, r]⟩) hU hnb (by omega) p1 rE rK
      obtain ⟨Fx, hg⟩ := htop nb ⟨.slice (some ⟨be, 0, none⟩) 1 1, .slice (some ⟨bk, 0, none⟩) 2 2, [e], [R, r]⟩ nn rfl rfl
      have hne : ∀ k, Ft (M'.put nb ⟨.slice (some ⟨be, 0, none⟩) 1 1, .slice (some ⟨bk, 0, none⟩) 2 2, [e], [R, r]⟩) k → k ≠ D ∧ k ≠ tb := fun k hk => by
        rcases tn.ft k hk with g | g
        · exact ⟨(hMD k g).1, (hMD k g).2.1⟩
        · omega
      refine ⟨_, nb, H + 1, Fx, mn.kept (fun k hk => ?_), ?_, hg, fr_putObj (Fr.set (F := fun k => Ft M k ∨ k = tb) (p := ⟨tb, 1, none⟩) (((hfr4.weak (fun _ _ g => Or.inr g)).trans h4 ?_).trans (Fr.of_below (F := fun _ => False) hU) (fun _ _ g => g.elim)) (Or.inl (Or.inr rfl)) _) (by omega), fun k hk => ?_⟩
      · rw [World.putObj_heap_other (hne k hk).1, set_other (hne k hk).2]
      · rw [World.putObj_heap_other (by omega)]
        exact heap_setCell_same _ tb 1 _ _ _ ((hU.block tb (by omega)).trans hct)
      · rintro i hi (g | g | g)
        · exact Or.inl g
        · omega
        · omega
      · rcases tn.ft k hk with g | g
        · exact (h5 k g).elim Or.inl (fun q => Or.inr (by omega))
        · exact Or.inr (by omega)
    clear m m4 ht hr hv hrdy b0 b1 b2 b3 bt hzs hz2 hvs hj h6 h1 h4 hc0 hct hfr4 htop hMD
    gi_wp2
    refine wpIn_mono (a := _) (w := _) (Q := onlyN _) ?_ onlyN_to
    have hS0 : Below W.heap.size W W.drew := (Below.refl _ _).drew
    refine anyL_wide (S := fun U => Below W.heap.size W U) (n := 13) (by kernel_rfl) (by kernel_rfl) (by rintro ⟨_, _, h⟩; exact h) hS0 (fun hHeld => ?_)
    generalize W.drew = Wd at hHeld ⊢
    have hWd := hHeld.size
    refine takeL 0 41 (v := .pointer (some ⟨tb, 0, none⟩)) rfl rfl (by kernel_rfl) (by kernel_rfl) (by kernel_rfl) (by kernel_rfl) (fun _ _ _ h => h) (Or.inl ⟨by rfl, by (intro W hSw; obtain ⟨s1, s2, s3, s4, s5⟩ := CE.out W hSw; go_simp)⟩) hHeld ?_
    simp only [List.setIfInBounds_toArray, List.set_cons_zero, List.set_cons_succ]
    refine takeL 1 42 (v := .agg #[.string e.key, .int .i64 e.n]) rfl rfl (by kernel_rfl) (by kernel_rfl) (by kernel_rfl) (by kernel_rfl) (fun _ _ _ h => h) (Or.inl ⟨by rfl, by (intro W hSw; obtain ⟨s1, s2, s3, s4, s5⟩ := CE.out W hSw; go_simp)⟩) hHeld ?_
    simp only [List.setIfInBounds_toArray, List.set_cons_zero, List.set_cons_succ]
    refine takeL 3 44 (v := .pointer (some ⟨tb, 0, none⟩)) rfl rfl (by kernel_rfl) (by kernel_rfl) (by kernel_rfl) (by kernel_rfl) (fun _ _ _ h => h) (Or.inl ⟨by rfl, by (intro W hSw; obtain ⟨s1, s2, s3, s4, s5⟩ := CE.out W hSw; go_simp)⟩) hHeld ?_
    simp only [List.setIfInBounds_toArray, List.set_cons_zero, List.set_cons_succ]
    refine takeL 4 45 (v := .pointer (some ⟨tb, 0, none⟩)) rfl rfl (by kernel_rfl) (by kernel_rfl) (by kernel_rfl) (by kernel_rfl) (fun _ _ _ h => h) (Or.inl ⟨by rfl, by (intro W hSw; obtain ⟨s1, s2, s3, s4, s5⟩ := CE.out W hSw; go_simp)⟩) hHeld ?_
    simp only [List.setIfInBounds_toArray, List.set_cons_zero, List.set_cons_succ]
    refine takeL 5 46 (v := .pointer (some ⟨tb, 1, none⟩)) rfl rfl (by kernel_rfl) (by kernel_rfl) (by kernel_rfl) (by kernel_rfl) (fun _ _ _ h => h) (Or.inl ⟨by rfl, by (intro W hSw; obtain ⟨s1, s2, s3, s4, s5⟩ := CE.out W hSw; go_simp)⟩) hHeld ?_
    simp only [List.setIfInBounds_toArray, List.set_cons_zero, List.set_cons_succ]
    refine takeL 6 47 (v := .pointer (some ⟨R, 0, none⟩)) rfl rfl (by kernel_rfl) (by kernel_rfl) (by kernel_rfl) (by kernel_rfl) (fun _ _ _ h => h) (Or.inl ⟨by rfl, by (intro W hSw; obtain ⟨s1, s2, s3, s4, s5⟩ := CE.out W hSw; go_simp)⟩) hHeld ?_
    simp only [List.setIfInBounds_toArray, List.set_cons_zero, List.set_cons_succ]
    refine takeL 7 48 (v := .pointer (some ⟨r, 0, none⟩)) rfl rfl (by kernel_rfl) (by kernel_rfl) (by kernel_rfl) (by kernel_rfl) (fun _ _ _ h => h) (Or.inl ⟨by rfl, by (intro W hSw; obtain ⟨s1, s2, s3, s4, s5⟩ := CE.out W hSw; go_simp)⟩) hHeld ?_
    simp only [List.setIfInBounds_toArray, List.set_cons_zero, List.set_cons_succ]
    refine anyL_two 2 8 (by kernel_rfl) (upL rfl (fun K hK => ?_)) (upL rfl (fun K hK => ?_))
    · go_simp
      refine hK.out _ _ (fun _ => hHeld.alloc hHeld.size _) (fun hHeld0 => ?_)
      have hHeld := hHeld0 (by decide)
      clear hHeld0 hK K
      (try simp only [Act.put, List.setIfInBounds_toArray, List.set_cons_zero, List.set_cons_succ])
      refine anyL_one 8 (by kernel_rfl) (upL rfl (fun K hK => ?_))
      go_simp
      refine hK.out _ _ (fun _ => hHeld.alloc hHeld.size _) (fun hHeld0 => ?_)
      have hHeld := hHeld0 (by decide)
      clear hHeld0 hK K
      (try simp only [Act.put, List.setIfInBounds_toArray, List.set_cons_zero, List.set_cons_succ])
      refine anyL_one 9 (by kernel_rfl) (upL rfl (fun K hK => ?_))
      go_simp
      refine hK.out _ _ (fun _ => hHeld) (fun hHeld0 => ?_)
      have hHeld := hHeld0 (by decide)
      clear hHeld0 hK K
      (try simp only [Act.put, List.setIfInBounds_toArray, List.set_cons_zero, List.set_cons_succ])
      refine anyL_one 10 (by kernel_rfl) (upL rfl (fun K hK => ?_))
      go_simp
      refine hK.out _ _ (fun _ => hHeld.alloc hHeld.size _) (fun hHeld0 => ?_)
      have hHeld := hHeld0 (by decide)
      clear hHeld0 hK K
      (try simp only [Act.put, List.setIfInBounds_toArray, List.set_cons_zero, List.set_cons_succ])
      obtain ⟨s1, s2, s3, s4, s5⟩ := CE.out _ hHeld
      refine anyL_one 11 (by kernel_rfl) (upL rfl (fun K hK => ?_))
      go_simp
      refine hK.out _ _ (fun _ => hHeld) (fun hHeld0 => ?_)
      have hHeld := hHeld0 (by decide)
      clear hHeld0 hK K
      (try simp only [Act.put, List.setIfInBounds_toArray, List.set_cons_zero, List.set_cons_succ])
      refine anyL_one 12 (by kernel_rfl) (upL rfl (fun K hK => ?_))
      go_simp
      refine hK.out _ _ (fun _ => hHeld) (fun hHeld0 => ?_)
      have hHeld := hHeld0 (by decide)
      clear hHeld0 hK K
      (try simp only [Act.put, List.setIfInBounds_toArray, List.set_cons_zero, List.set_cons_succ])
      refine anyL_one 13 (by kernel_rfl) (upL rfl (fun K hK => ?_))
      go_simp
      refine hK.out _ _ (fun q => absurd rfl q) (fun _ => ?_)
      clear hK K
      (try simp only [Act.put, List.setIfInBounds_toArray, List.set_cons_zero, List.set_cons_succ])
      refine anyL_done (by kernel_rfl) ?_ _
      refine ⟨by simp, .inl ⟨_, _, rfl, run_takeDeferred (HD.out _ _ hHeld), ?_⟩⟩
      refine ⟨_, results_none rfl _ _ _, rfl, FIN.out _ (Wd.heap.size + 1 + 1) (Wd.heap.size) (Wd.heap.size + 1) hHeld (by omega) (by omega) (by omega) ?_ ?_ ?_⟩
      · exact alloc_two _ _ _ _
      · exact alloc_first _ _ _ _
      · exact alloc_second _ _ _ _
    · go_simp
      refine hK.out _ _ (fun _ => hHeld.alloc hHeld.size _) (fun hHeld0 => ?_)
      have hHeld := hHeld0 (by decide)
      clear hHeld0 hK K
      (try simp only [Act.put, List.setIfInBounds_toArray, List.set_cons_zero, List.set_cons_succ])
      refine anyL_one 2 (by kernel_rfl) (upL rfl (fun K hK => ?_))
      go_simp
      refine hK.out _ _ (fun _ => hHeld.alloc hHeld.size _) (fun hHeld0 => ?_)
      have hHeld := hHeld0 (by decide)
      clear hHeld0 hK K
      (try simp only [Act.put, List.setIfInBounds_toArray, List.set_cons_zero, List.set_cons_succ])
      refine anyL_one 9 (by kernel_rfl) (upL rfl (fun K hK => ?_))
      go_simp
      refine hK.out _ _ (fun _ => hHeld) (fun hHeld0 => ?_)
      have hHeld := hHeld0 (by decide)
      clear hHeld0 hK K
      (try simp only [Act.put, List.setIfInBounds_toArray, List.set_cons_zero, List.set_cons_succ])
      refine anyL_one 10 (by kernel_rfl) (upL rfl (fun K hK => ?_))
      go_simp
      refine hK.out _ _ (fun _ => hHeld.alloc hHeld.size _) (fun hHeld0 => ?_)
      have hHeld := hHeld0 (by decide)
      clear hHeld0 hK K
      (try simp only [Act.put, List.setIfInBounds_toArray, List.set_cons_zero, List.set_cons_succ])
      obtain ⟨s1, s2, s3, s4, s5⟩ := CE.out _ hHeld
      refine anyL_one 11 (by kernel_rfl) (upL rfl (fun K hK => ?_))
      go_simp
      refine hK.out _ _ (fun _ => hHeld) (fun hHeld0 => ?_)
      have hHeld := hHeld0 (by decide)
      clear hHeld0 hK K
      (try simp only [Act.put, List.setIfInBounds_toArray, List.set_cons_zero, List.set_cons_succ])
      refine anyL_one 12 (by kernel_rfl) (upL rfl (fun K hK => ?_))
      go_simp
      refine hK.out _ _ (fun _ => hHeld) (fun hHeld0 => ?_)
      have hHeld := hHeld0 (by decide)
      clear hHeld0 hK K
      (try simp only [Act.put, List.setIfInBounds_toArray, List.set_cons_zero, List.set_cons_succ])
      refine anyL_one 13 (by kernel_rfl) (upL rfl (fun K hK => ?_))
      go_simp
      refine hK.out _ _ (fun q => absurd rfl q) (fun _ => ?_)
      clear hK K
      (try simp only [Act.put, List.setIfInBounds_toArray, List.set_cons_zero, List.set_cons_succ])
      refine anyL_done (by kernel_rfl) ?_ _
      refine ⟨by simp, .inl ⟨_, _, rfl, run_takeDeferred (HD.out _ _ hHeld), ?_⟩⟩
      refine ⟨_, results_none rfl _ _ _, rfl, FIN.out _ (Wd.heap.size + 1 + 1) (Wd.heap.size + 1) (Wd.heap.size) hHeld (by omega) (by omega) (by omega) ?_ ?_ ?_⟩
      · exact alloc_two _ _ _ _
      · exact alloc_second _ _ _ _
      · exact alloc_first _ _ _ _
  · -- a spot where nothing was split
    intro D c W hD hx hK
    obtain ⟨rfl, M', F', h1, h2, h3, h4⟩ := hx
    have hz := h2.size
    have hDn : ∀ k, Ft M' k → k ≠ D := fun k hk e => by
      obtain ⟨o, g1, g2⟩ := h1.cells hk
      rw [e, hK] at g1; cases g1; cases g2
    gi_wp2
    refine ⟨by simp, .inl ⟨_, _, rfl, run_takeDeferred hK, ?_⟩⟩
    refine ⟨_, results_none rfl _ _ _, rfl, M', R, H, F', h1.kept (fun k hk => World.putObj_heap_other (hDn k hk)), ?_, h4, fr_putObj ((hfr4.weak (fun _ _ g => Or.inr g)).trans h2 ?_) (by omega), fun k hk => (h3 k hk).elim Or.inl (fun q => Or.inr (by omega))⟩
    · rw [World.putObj_heap_other (by omega)]
      exact (h2.block tb (by omega) (by
        rintro (g | g | g)
        · exact (hM4 _ g).2 rfl
        · omega
        · omega)).trans bt
    · rintro i hi (g | g | g)
      · exact Or.inl g
      · omega
      · omega

end Go.Proofs.Ytkfoddblgdmabaa.tr

/- Moves of a pool in memory. -/
import Derived.Test.YtkjioabhdglkpaaGreatQMem
namespace Go.Proofs.YtkjioabhdglkpaaGreat
open Go.RowKit

def up (b : Nat) (f : Fm) (l : List (Nat × Fm)) : List (Nat × Fm) := l.map (fun y => if y.1 = b then (b, f) else y)

theorem up_fst (b : Nat) (f : Fm) (l : List (Nat × Fm)) : (up b f l).map Prod.fst = l.map Prod.fst := by
  induction l with
  | nil => rfl
  | cons y l ih =>
    simp only [up, List.map_cons] at *
    rw [ih]
    congr 1
    split
    · rename_i e; exact e.symm
    · rfl
theorem up_len (b : Nat) (f : Fm) (l : List (Nat × Fm)) : (up b f l).length = l.length := by simp [up]
theorem up_append (b : Nat) (f : Fm) (l m : List (Nat × Fm)) : up b f (l ++ m) = up b f l ++ up b f m := by simp [up]
theorem up_not (b : Nat) (f : Fm) (l : List (Nat × Fm)) (h : b ∉ l.map Prod.fst) : up b f l = l := by
  induction l with
  | nil => rfl
  | cons y l ih =>
    simp only [List.map_cons, List.mem_cons, not_or] at h
    have := ih h.2
    simp only [up, List.map_cons] at *
    rw [this, if_neg (fun e => h.1 e.symm)]
theorem up_one (b : Nat) (f f' : Fm) : up b f' [(b, f)] = [(b, f')] := by simp [up]
theorem up_ptrs (b : Nat) (f : Fm) (l : List (Nat × Fm)) : ptrs (up b f l) = ptrs l := by
  have := congrArg (List.map ptr) (up_fst b f l)
  simpa [ptrs, List.map_map, Function.comp_def] using this
theorem up_set (b : Nat) (f f' : Fm) (l : List (Nat × Fm)) (i : Nat) (hi : l[i]? = some (b, f)) (hn : (l.map Prod.fst).Nodup) : up b f' l = l.set i (b, f') := by
  induction l generalizing i with
  | nil => simp at hi
  | cons y l ih =>
    simp only [List.map_cons, List.nodup_cons] at hn
    cases i with
    | zero =>
      simp at hi
      subst hi
      have := up_not b f' l hn.1
      simp only [up, List.map_cons, List.set_cons_zero] at *
      rw [this]; simp
    | succ i =>
      simp at hi
      have := ih i hi hn.2
      simp only [up, List.map_cons, List.set_cons_succ] at *
      rw [this, if_neg]
      intro e
      exact hn.1 (by rw [e]; exact List.mem_map.2 ⟨(b, f), List.mem_of_getElem? hi, rfl⟩)

section
variable {B : Nat} {w w' : World} {x : PX}

/-- A call of the device. -/
theorem Pd.devTo (h : Pd B w x) {D' : DS} (hd : DTo B w x.g x.gs x.dv D' w') : ∃ dv', PTo B w x { x with dv := dv', D := D' } w' := by
  obtain ⟨dv', d', f, new⟩ := hd
  have hk : ∀ k, x.own k → w'.heap[k]? = w.heap[k]? := fun k e => f.block k (h.ltOwn e) (fun q => h.apart e q)
  have mo : ∀ y ∈ x.L ++ x.O, x.own y.1 := fun y hy => Or.inr (Or.inr (Or.inr (Or.inl (List.mem_map.2 ⟨y, hy, rfl⟩))))
  refine ⟨dv', ⟨⟨(hk _ (Or.inl rfl)).trans h.pool, ?_, ?_, fun y hy => ⟨(hk _ (mo y hy)).trans (h.fr y hy).1, (h.fr y hy).2⟩, fun b hb => ⟨(hk _ (Or.inr (Or.inr (Or.inr (Or.inr hb))))).trans (h.free b hb).1, (h.free b hb).2⟩, h.nd, h.len, h.pB, h.cB, d'⟩, ?_, rfl, rfl, rfl, rfl, rfl, ?_⟩⟩
  · obtain ⟨s, r, hc⟩ := h.chan
    exact ⟨s, r, (hk _ (Or.inr (Or.inl rfl))).trans hc⟩
  · exact owns_kept h.row (fun k e _ => hk k (Or.inr (Or.inr (Or.inl e))))
  · exact ⟨f.os, f.tape, f.output, f.size, fun k hk hn => f.block k hk (fun q => hn (Or.inr q))⟩
  · rintro k (e | e)
    · exact Or.inl (Or.inl e)
    · rcases e with e | e | e
      · exact Or.inl (Or.inr (Or.inl e))
      · exact Or.inl (Or.inr (Or.inr (Or.inl e)))
      · rcases new k e with q | q
        · exact Or.inl (Or.inr (Or.inr (Or.inr q)))
        · exact Or.inr q

/-- A block of the pool's own that is none of its frames' is no other. -/
theorem Pd.neFr (h : Pd B w x) {y : Nat × Fm} (hy : y ∈ x.L ++ x.O) : y.1 ≠ x.p ∧ y.1 ≠ x.c ∧ x.hv.ownBlock ≠ some y.1 := by
  have t : tagOf w.heap[y.1]? = some 117 := by rw [(h.fr y hy).1]; rfl
  refine ⟨fun e => ?_, fun e => ?_, fun e => ?_⟩
  · rw [e, h.pool] at t; simp [tagOf] at t
  · obtain ⟨s, r, hc⟩ := h.chan
    rw [e, hc] at t; simp [tagOf] at t
  · rw [own_tag h.row e] at t; simp at t

/-- A frame's content is changed. -/
theorem Pd.setFr (h : Pd B w x) {b : Nat} {f f' : Fm} (hb : (b, f) ∈ x.L ++ x.O) (hs : Fr (fun k => k = b) w w') (hf : w'.heap[b]? = some (fobj f')) :
    PTo B w x { x with L := up b f' x.L, O := up b f' x.O } w' := by
  obtain ⟨n1, n2, n3⟩ := h.neFr hb
  have hown : x.own b := Or.inr (Or.inr (Or.inr (Or.inl (List.mem_map.2 ⟨(b, f), hb, rfl⟩))))
  have hk : ∀ k, k < w.heap.size → k ≠ b → w'.heap[k]? = w.heap[k]? := fun k hk e => hs.block k hk e
  have nd := h.nd
  refine ⟨⟨(hk _ (lt_of_some h.pool) (fun e => n1 e.symm)).trans h.pool, ?_, ?_, ?_, ?_, ?_, ?_, h.pB, h.cB, ?_⟩, ?_, rfl, rfl, rfl, rfl, rfl, ?_⟩
  · obtain ⟨s, r, hc⟩ := h.chan
    exact ⟨s, r, (hk _ (lt_of_some hc) (fun e => n2 e.symm)).trans hc⟩
  · rw [up_len, up_ptrs]
    exact owns_kept h.row (fun k e q => hk k q (fun z => n3 (z ▸ e)))
  · intro y hy
    rw [← up_append] at hy
    obtain ⟨z, hz, rfl⟩ := List.mem_map.1 hy
    by_cases e : z.1 = b
    · rw [if_pos e]
      exact ⟨hf, (h.fr (b, f) hb).2⟩
    · rw [if_neg e]
      exact ⟨(hk _ (lt_of_some (h.fr z hz).1) e).trans (h.fr z hz).1, (h.fr z hz).2⟩
  · intro k hkF
    have : k ≠ b := by
      rintro rfl
      exact (List.nodup_append.1 nd).2.2 k (List.mem_map.2 ⟨(k, f), hb, rfl⟩) k hkF rfl
    exact ⟨(hk _ (lt_of_some (h.free k hkF).1) this).trans (h.free k hkF).1, (h.free k hkF).2⟩
  · rw [← up_append, up_fst]; exact nd
  · rw [up_len, up_len]; exact h.len
  · exact h.dev.kept (fun k e => hk k (h.dev.lt k e) (by rintro rfl; exact h.apart hown e))
  · exact ⟨hs.os, hs.tape, hs.output, hs.size, fun k hk hn => hs.block k hk (fun e => hn (by rw [e]; exact Or.inl hown))⟩
  · rintro k (e | e)
    · unfold PX.own at e
      rw [← up_append, up_fst] at e
      exact Or.inl (Or.inl e)
    · exact Or.inl (Or.inr e)

/-- The pool's own block is no other. -/
theorem Pd.neP (h : Pd B w x) : x.p ≠ x.c ∧ x.hv.ownBlock ≠ some x.p ∧ (∀ y ∈ x.L ++ x.O, y.1 ≠ x.p) ∧ (∀ b ∈ x.F, b ≠ x.p) := by
  have t : tagOf w.heap[x.p]? = some 100 := by rw [h.pool]; rfl
  refine ⟨fun e => ?_, fun e => ?_, fun y hy => (h.neFr hy).1, fun b hb e => ?_⟩
  · obtain ⟨s, r, hc⟩ := h.chan
    rw [e, hc] at t; simp [tagOf] at t
  · rw [own_tag h.row e] at t; simp at t
  · rw [← e, (h.free b hb).1] at t; simp [tagOf, fobj] at t

theorem Pd.setP (h : Pd B w x) (fv : Value) (rd wr : Nat) (hs : Fr (fun k => k = x.p) w w') (hp : w'.heap[x.p]? = some (.cells #[.pointer (some ⟨x.g, 0, none⟩), .chan (some x.c), fv, .int .i64 (rd : Int), .int .i64 (wr : Int)] 100 (0, 0))) :
    PTo B w x { x with fv := fv, rd := rd, wr := wr } w' := by
  obtain ⟨n1, n2, n3, n4⟩ := h.neP
  have hk : ∀ k, k < w.heap.size → k ≠ x.p → w'.heap[k]? = w.heap[k]? := fun k hk e => hs.block k hk e
  refine ⟨⟨hp, ?_, ?_, ?_, ?_, h.nd, h.len, h.pB, h.cB, ?_⟩, ?_, rfl, rfl, rfl, rfl, rfl, fun k e => Or.inl e⟩
  · obtain ⟨s, r, hc⟩ := h.chan
    exact ⟨s, r, (hk _ (lt_of_some hc) (fun e => n1 e.symm)).trans hc⟩
  · exact owns_kept h.row (fun k e q => hk k q (fun z => n2 (z ▸ e)))
  · exact fun y hy => ⟨(hk _ (lt_of_some (h.fr y hy).1) (n3 y hy)).trans (h.fr y hy).1, (h.fr y hy).2⟩
  · exact fun b hb => ⟨(hk _ (lt_of_some (h.free b hb).1) (n4 b hb)).trans (h.free b hb).1, (h.free b hb).2⟩
  · exact h.dev.kept (fun k e => hk k (h.dev.lt k e) (by rintro rfl; exact h.apart (Or.inl rfl) e))
  · exact ⟨hs.os, hs.tape, hs.output, hs.size, fun k hk hn => hs.block k hk (fun e => hn (by rw [e]; exact Or.inl (Or.inl rfl)))⟩

theorem Pd.setFv (h : Pd B w x) (fv : Value) : PTo B w x { x with fv := fv } (w.setCell ⟨x.p, 2, none⟩ fv) :=
  h.setP fv x.rd x.wr (Fr.set (F := fun k => k = x.p) (Fr.refl _ _) (p := ⟨x.p, 2, none⟩) (Or.inl rfl) _) (by simpa using heap_setCell_same w x.p 2 _ _ fv h.pool)
theorem Pd.setRd (h : Pd B w x) (k : Nat) : PTo B w x { x with rd := k } (w.setCell ⟨x.p, 3, none⟩ (.int .i64 (k : Int))) :=
  h.setP x.fv k x.wr (Fr.set (F := fun k => k = x.p) (Fr.refl _ _) (p := ⟨x.p, 3, none⟩) (Or.inl rfl) _) (by simpa using heap_setCell_same w x.p 3 _ _ (.int .i64 (k : Int)) h.pool)
theorem Pd.setWr (h : Pd B w x) (k : Nat) : PTo B w x { x with wr := k } (w.setCell ⟨x.p, 4, none⟩ (.int .i64 (k : Int))) :=
  h.setP x.fv x.rd k (Fr.set (F := fun k => k = x.p) (Fr.refl _ _) (p := ⟨x.p, 4, none⟩) (Or.inl rfl) _) (by simpa using heap_setCell_same w x.p 4 _ _ (.int .i64 (k : Int)) h.pool)

/-- The row of those that are held is another one. -/
theorem Pd.reRow (h : Pd B w x) (hv : Value) (L O : List (Nat × Fm)) (hs : Fr (fun k => x.hv.ownBlock = some k) w w') (hr : w'.ownsRow B 84 1 hv L.length (ptrs L)) (hp : (L ++ O).Perm (x.L ++ x.O))
    (new : ∀ k, hv.ownBlock = some k → x.hv.ownBlock = some k ∨ w.heap.size ≤ k) : PTo B w x { x with hv := hv, L := L, O := O } w' := by
  have hk : ∀ k, k < w.heap.size → x.hv.ownBlock ≠ some k → w'.heap[k]? = w.heap[k]? := fun k hk e => hs.block k hk e
  have hkf : ∀ y ∈ x.L ++ x.O, w'.heap[y.1]? = some (fobj y.2) ∧ B ≤ y.1 := fun y hy => ⟨(hk _ (lt_of_some (h.fr y hy).1) (h.neFr hy).2.2).trans (h.fr y hy).1, (h.fr y hy).2⟩
  have hpm := hp.map Prod.fst
  refine ⟨⟨(hk _ (lt_of_some h.pool) h.neP.2.1).trans h.pool, ?_, hr, fun y hy => hkf y (hp.mem_iff.1 hy), ?_, ?_, ?_, h.pB, h.cB, ?_⟩, ?_, rfl, rfl, rfl, rfl, rfl, ?_⟩
  · obtain ⟨s, r, hc⟩ := h.chan
    exact ⟨s, r, (hk _ (lt_of_some hc) (fun e => by have := own_tag h.row e; rw [hc] at this; simp [tagOf] at this)).trans hc⟩
  · exact fun b hb => ⟨(hk _ (lt_of_some (h.free b hb).1) (fun e => by have := own_tag h.row e; rw [(h.free b hb).1] at this; simp [tagOf, fobj] at this)).trans (h.free b hb).1, (h.free b hb).2⟩
  · exact (List.Perm.nodup_iff (hpm.append_right _)).2 h.nd
  · have := hp.length_eq
    have := h.len
    simp only [List.length_append] at *
    omega
  · exact h.dev.kept (fun k e => hk k (h.dev.lt k e) (fun q => h.apart (Or.inr (Or.inr (Or.inl q))) e))
  · exact ⟨hs.os, hs.tape, hs.output, hs.size, fun k hk hn => hs.block k hk (fun e => hn (Or.inl (Or.inr (Or.inr (Or.inl e)))))⟩
  · rintro k ((e | e | e | e | e) | e)
    · exact Or.inl (Or.inl (Or.inl e))
    · exact Or.inl (Or.inl (Or.inr (Or.inl e)))
    · rcases new k e with q | q
      · exact Or.inl (Or.inl (Or.inr (Or.inr (Or.inl q))))
      · exact Or.inr q
    · exact Or.inl (Or.inl (Or.inr (Or.inr (Or.inr (Or.inl (hpm.mem_iff.1 e))))))
    · exact Or.inl (Or.inl (Or.inr (Or.inr (Or.inr (Or.inr e)))))
    · exact Or.inl (Or.inr e)

/-- A world in which one channel has changed. -/
theorem fr_setChan (w : World) (c cap : Nat) (buf : Array Value) (cl : Bool) (s r : Nat) (tm : Bool) : Fr (fun k => k = c) w (w.setChan c cap buf cl s r tm) :=
  ⟨rfl, rfl, rfl, by simp [World.setChan], fun k _ e => by simp only [World.setChan]; rw [Array.getElem?_setIfInBounds_ne (fun z => e z.symm)]⟩

theorem Pd.neC (h : Pd B w x) : x.p ≠ x.c ∧ x.hv.ownBlock ≠ some x.c ∧ (∀ y ∈ x.L ++ x.O, y.1 ≠ x.c) ∧ (∀ b ∈ x.F, b ≠ x.c) := by
  obtain ⟨s, r, hc⟩ := h.chan
  refine ⟨h.neP.1, fun e => ?_, fun y hy => (h.neFr hy).2.1, fun b hb e => ?_⟩
  · have := own_tag h.row e; rw [hc] at this; simp [tagOf] at this
  · have := (h.free b hb).1; rw [e, hc] at this; simp [fobj] at this

/-- What waits in the channel is another. -/
theorem Pd.setC (h : Pd B w x) (O : List (Nat × Fm)) (F : List Nat) (hs : Fr (fun k => k = x.c) w w') (hc : ∃ s r, w'.heap[x.c]? = some (.chan x.n (F.map ptr).toArray false s r false))
    (hp : (O.map Prod.fst ++ F).Perm (x.O.map Prod.fst ++ x.F)) (hO : ∀ y ∈ O, y ∈ x.O ∨ (y.2 = Fm0 ∧ y.1 ∈ x.F)) (hF : ∀ b ∈ F, b ∈ x.F ∨ (b, Fm0) ∈ x.O) : PTo B w x { x with O := O, F := F } w' := by
  obtain ⟨n1, n2, n3, n4⟩ := h.neC
  have hk : ∀ k, k < w.heap.size → k ≠ x.c → w'.heap[k]? = w.heap[k]? := fun k hk e => hs.block k hk e
  have h1 : ∀ y ∈ x.L ++ x.O, w'.heap[y.1]? = some (fobj y.2) ∧ B ≤ y.1 := fun y hy => ⟨(hk _ (lt_of_some (h.fr y hy).1) (n3 y hy)).trans (h.fr y hy).1, (h.fr y hy).2⟩
  have h2 : ∀ b ∈ x.F, w'.heap[b]? = some (fobj Fm0) ∧ B ≤ b := fun b hb => ⟨(hk _ (lt_of_some (h.free b hb).1) (n4 b hb)).trans (h.free b hb).1, (h.free b hb).2⟩
  have hpp : ((x.L ++ O).map Prod.fst ++ F).Perm ((x.L ++ x.O).map Prod.fst ++ x.F) := by
    simp only [List.map_append, List.append_assoc]
    exact hp.append_left _
  refine ⟨⟨(hk _ (lt_of_some h.pool) n1).trans h.pool, hc, ?_, ?_, ?_, (List.Perm.nodup_iff hpp).2 h.nd, ?_, h.pB, h.cB, ?_⟩, ?_, rfl, rfl, rfl, rfl, rfl, ?_⟩
  · exact owns_kept h.row (fun k e q => hk k q (fun z => n2 (z ▸ e)))
  · intro y hy
    rcases List.mem_append.1 hy with q | q
    · exact h1 y (List.mem_append_left _ q)
    · rcases hO y q with e | ⟨e1, e2⟩
      · exact h1 y (List.mem_append_right _ e)
      · rw [e1]; exact h2 _ e2
  · intro b hb
    rcases hF b hb with e | e
    · exact h2 b e
    · exact h1 (b, Fm0) (List.mem_append_right _ e)
  · have := hp.length_eq
    have := h.len
    simp only [List.length_append, List.length_map] at *
    omega
  · exact h.dev.kept (fun k e => hk k (h.dev.lt k e) (by rintro rfl; exact h.apart (Or.inr (Or.inl rfl)) e))
  · exact ⟨hs.os, hs.tape, hs.output, hs.size, fun k hk hn => hs.block k hk (fun e => hn (by rw [e]; exact Or.inl (Or.inr (Or.inl rfl))))⟩
  · rintro k (e | e)
    · refine Or.inl (Or.inl ?_)
      rcases e with e | e | e | e | e
      · exact Or.inl e
      · exact Or.inr (Or.inl e)
      · exact Or.inr (Or.inr (Or.inl e))
      · have : k ∈ (x.L ++ O).map Prod.fst ++ F := List.mem_append_left _ e
        rcases List.mem_append.1 (hpp.mem_iff.1 this) with q | q
        · exact Or.inr (Or.inr (Or.inr (Or.inl q)))
        · exact Or.inr (Or.inr (Or.inr (Or.inr q)))
      · have : k ∈ (x.L ++ O).map Prod.fst ++ F := List.mem_append_right _ e
        rcases List.mem_append.1 (hpp.mem_iff.1 this) with q | q
        · exact Or.inr (Or.inr (Or.inr (Or.inl q)))
        · exact Or.inr (Or.inr (Or.inr (Or.inr q)))
    · exact Or.inl (Or.inr e)
end

end Go.Proofs.YtkjioabhdglkpaaGreat

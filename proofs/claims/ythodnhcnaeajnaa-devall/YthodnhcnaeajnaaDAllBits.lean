/- DevAll: two devices, two arrays; a crash that keeps all, one that keeps none. -/
import Derived.Test.YthodnhcnaeajnaaDArms
namespace Go.Proofs.Ythodnhcnaeajnaa
open Go.RowKit

theorem crN_nil (f : Nat → ByteArray) (l : List (Nat × ByteArray)) (k : Nat) : crN f l [] k = f := by
  induction k with
  | zero => rfl
  | succ k ih => rw [crN_none _ _ _ _ (by simp), ih]

theorem crN_ones {f : Nat → ByteArray} {l : List (Nat × ByteArray)} {n : Nat} (hf : ∀ j, j < n → (f j).size = 512) (hh : ∀ p ∈ l, p.1 < n ∧ p.2.size = 512) (m : Nat) (hm : m = l.length) (k : Nat) (hk : k ≤ m) : crN f l (List.replicate m 1) k = flN f l k := by
  subst hm
  induction k with
  | zero => rfl
  | succ k ih =>
    have hlt : k < l.length := by omega
    have hp : l[k]? = some l[k] := by simp [hlt]
    have hx : (List.replicate l.length (1 : Int))[k]? = some 1 := by simp [hlt]
    have hq := hh _ (List.mem_of_getElem? hp)
    rw [crN_some _ _ _ _ _ _ hp hx, flN_succ _ _ _ _ hp, show kept 1 = 512 from rfl, tear_full _ _ hq.2 (crN_size hf hh k _ hq.1), ih (by omega)]

/-- An array of eight bytes. -/
def Arr (w : World) (H : Nat) (f : Nat → UInt8) : Prop := ∃ (t : TypeId) (cur : Array Value), w.heap[H]? = some (.cells cur t (0, 0)) ∧ cur.size = 8 ∧ ∀ j, j < 8 → cur[j]? = some (.int .u8 ((f j).toNat : Int))

def updB (f : Nat → UInt8) (i : Nat) (s : UInt8) : Nat → UInt8 := fun j => if j = i then s else f j

theorem Arr.kept {w w' : World} {H : Nat} {f : Nat → UInt8} (h : Arr w H f) (e : w'.heap[H]? = w.heap[H]?) : Arr w' H f := by
  obtain ⟨t, cur, h1, h2, h3⟩ := h
  exact ⟨t, cur, e.trans h1, h2, h3⟩

theorem Arr.cell {w : World} {H : Nat} {f : Nat → UInt8} (h : Arr w H f) (j : Nat) (hj : j < 8) : w.cell? ⟨H, j, none⟩ = some (.int .u8 ((f j).toNat : Int)) := by
  obtain ⟨t, cur, h1, h2, h3⟩ := h
  rw [cell_of_row w H j cur t _ h1]
  exact h3 j hj

theorem Arr.free {w : World} {H : Nat} {f : Nat → UInt8} (h : Arr w H f) (j : Nat) : w.frozen? ⟨H, j, none⟩ = false := by
  obtain ⟨t, cur, h1, h2, h3⟩ := h
  exact frozen_of_row w H j cur t h1

theorem Arr.set {w : World} {H : Nat} {f : Nat → UInt8} (h : Arr w H f) (i : Nat) (c : UInt8) : Arr (w.setCell ⟨H, i, none⟩ (.int .u8 (c.toNat : Int))) H (updB f i c) := by
  obtain ⟨t, cur, h1, h2, h3⟩ := h
  refine ⟨t, cur.setIfInBounds i (.int .u8 (c.toNat : Int)), heap_setCell_same w H i cur t _ h1, by simpa using h2, fun j hj => ?_⟩
  simp only [Array.getElem?_setIfInBounds, updB]
  by_cases e : i = j
  · subst e; rw [if_pos rfl, if_pos (by omega), if_pos rfl]
  · rw [if_neg e, if_neg (fun q => e q.symm)]; exact h3 j hj

theorem Arr.ext {w : World} {H : Nat} {f f' : Nat → UInt8} (h : Arr w H f) (e : ∀ j, j < 8 → f j = f' j) : Arr w H f' := by
  obtain ⟨t, cur, h1, h2, h3⟩ := h
  exact ⟨t, cur, h1, h2, fun j hj => by rw [← e j hj]; exact h3 j hj⟩

theorem Arr.lt {w : World} {H : Nat} {f : Nat → UInt8} (h : Arr w H f) : H < w.heap.size := by
  obtain ⟨t, cur, h1, _⟩ := h
  exact (Array.getElem?_eq_some_iff.1 h1).1

/-- Two devices, two arrays. -/
structure Duo (W w : World) (g1 s1 : Nat) (v1 : Value) (g2 s2 : Nat) (v2 : Value) (D1 D2 : DS) (HN HS : Nat) (now safe : Nat → UInt8) : Prop where
  d1 : Dev W.heap.size w g1 s1 v1 D1
  d2 : Dev W.heap.size w g2 s2 v2 D2
  apart : ∀ k, foot g1 s1 v1 k → ¬ foot g2 s2 v2 k
  aN : Arr w HN now
  aS : Arr w HS safe
  n1 : ¬ foot g1 s1 v1 HN ∧ ¬ foot g2 s2 v2 HN ∧ ¬ foot g1 s1 v1 HS ∧ ¬ foot g2 s2 v2 HS
  ne : HN ≠ HS
  lo : W.heap.size ≤ HN ∧ W.heap.size ≤ HS
  bel : Below W.heap.size W w

section
variable {W w w' : World} {g1 s1 : Nat} {v1 : Value} {g2 s2 : Nat} {v2 : Value} {D1 D2 D' : DS} {HN HS : Nat} {now safe : Nat → UInt8}

theorem Duo.below (x : Duo W w g1 s1 v1 g2 s2 v2 D1 D2 HN HS now safe) (hb : Below w.heap.size w w') : Duo W w' g1 s1 v1 g2 s2 v2 D1 D2 HN HS now safe :=
  ⟨x.d1.below hb, x.d2.below hb, x.apart, x.aN.kept (hb.block _ x.aN.lt), x.aS.kept (hb.block _ x.aS.lt), x.n1, x.ne, x.lo, below2 x.bel hb⟩

theorem foot_grew {g gs : Nat} {hv hv' : Value} (gr : ∀ k, hv'.ownBlock = some k → hv.ownBlock = some k ∨ w.heap.size ≤ k) (k : Nat) (h : foot g gs hv' k) : foot g gs hv k ∨ w.heap.size ≤ k := by
  rcases h with r | r | r
  · exact Or.inl (Or.inl r)
  · exact Or.inl (Or.inr (Or.inl r))
  · rcases gr k r with q | q
    · exact Or.inl (Or.inr (Or.inr q))
    · exact Or.inr q

theorem Duo.step1 (x : Duo W w g1 s1 v1 g2 s2 v2 D1 D2 HN HS now safe) (d : DTo W.heap.size w g1 s1 v1 D' w') : ∃ v1', Duo W w' g1 s1 v1' g2 s2 v2 D' D2 HN HS now safe := by
  obtain ⟨v1', d', f, gr⟩ := d
  have g := fun k h => foot_grew (g := g1) (gs := s1) (w := w) gr k h
  refine ⟨v1', ⟨d', x.d2.apart f (fun k p q => x.apart k q p), fun k p q => ?_, x.aN.kept (f.block _ x.aN.lt x.n1.1), x.aS.kept (f.block _ x.aS.lt x.n1.2.2.1), ⟨fun p => ?_, x.n1.2.1, fun p => ?_, x.n1.2.2.2⟩, x.ne, x.lo, f.belowD x.bel x.d1 (Nat.le_refl _)⟩⟩
  · rcases g k p with r | r
    · exact x.apart k r q
    · have := x.d2.lt k q; omega
  · rcases g _ p with r | r
    · exact x.n1.1 r
    · have := x.aN.lt; omega
  · rcases g _ p with r | r
    · exact x.n1.2.2.1 r
    · have := x.aS.lt; omega

theorem Duo.step2 (x : Duo W w g1 s1 v1 g2 s2 v2 D1 D2 HN HS now safe) (d : DTo W.heap.size w g2 s2 v2 D' w') : ∃ v2', Duo W w' g1 s1 v1 g2 s2 v2' D1 D' HN HS now safe := by
  obtain ⟨v2', d', f, gr⟩ := d
  have g := fun k h => foot_grew (g := g2) (gs := s2) (w := w) gr k h
  refine ⟨v2', ⟨x.d1.apart f x.apart, d', fun k p q => ?_, x.aN.kept (f.block _ x.aN.lt x.n1.2.1), x.aS.kept (f.block _ x.aS.lt x.n1.2.2.2), ⟨x.n1.1, fun p => ?_, x.n1.2.2.1, fun p => ?_⟩, x.ne, x.lo, f.belowD x.bel x.d2 (Nat.le_refl _)⟩⟩
  · rcases g k q with r | r
    · exact x.apart k p r
    · have := x.d1.lt k p; omega
  · rcases g _ p with r | r
    · exact x.n1.2.1 r
    · have := x.aN.lt; omega
  · rcases g _ p with r | r
    · exact x.n1.2.2.2 r
    · have := x.aS.lt; omega

theorem Duo.setNow (x : Duo W w g1 s1 v1 g2 s2 v2 D1 D2 HN HS now safe) (i : Nat) (c : UInt8) : Duo W (w.setCell ⟨HN, i, none⟩ (.int .u8 (c.toNat : Int))) g1 s1 v1 g2 s2 v2 D1 D2 HN HS (updB now i c) safe :=
  ⟨x.d1.kept (fun k hk => Below.heap_setCell _ _ _ _ (by rintro rfl; exact x.n1.1 hk)), x.d2.kept (fun k hk => Below.heap_setCell _ _ _ _ (by rintro rfl; exact x.n1.2.1 hk)), x.apart, x.aN.set i c, x.aS.kept (Below.heap_setCell _ _ _ _ (Ne.symm x.ne)), x.n1, x.ne, x.lo, x.bel.setCell x.lo.1 _⟩

theorem Duo.setSafe (x : Duo W w g1 s1 v1 g2 s2 v2 D1 D2 HN HS now safe) (i : Nat) (c : UInt8) : Duo W (w.setCell ⟨HS, i, none⟩ (.int .u8 (c.toNat : Int))) g1 s1 v1 g2 s2 v2 D1 D2 HN HS now (updB safe i c) :=
  ⟨x.d1.kept (fun k hk => Below.heap_setCell _ _ _ _ (by rintro rfl; exact x.n1.2.2.1 hk)), x.d2.kept (fun k hk => Below.heap_setCell _ _ _ _ (by rintro rfl; exact x.n1.2.2.2 hk)), x.apart, x.aN.kept (Below.heap_setCell _ _ _ _ x.ne), x.aS.set i c, x.n1, x.ne, x.lo, x.bel.setCell x.lo.2 _⟩

/-- safe = now. -/
theorem Duo.copy (x : Duo W w g1 s1 v1 g2 s2 v2 D1 D2 HN HS now safe) :
    Duo W ((((((((w.setCell ⟨HS, 0, none⟩ (.int .u8 ((now 0).toNat : Int))).setCell ⟨HS, 1, none⟩ (.int .u8 ((now 1).toNat : Int))).setCell ⟨HS, 2, none⟩ (.int .u8 ((now 2).toNat : Int))).setCell ⟨HS, 3, none⟩ (.int .u8 ((now 3).toNat : Int))).setCell ⟨HS, 4, none⟩ (.int .u8 ((now 4).toNat : Int))).setCell ⟨HS, 5, none⟩ (.int .u8 ((now 5).toNat : Int))).setCell ⟨HS, 6, none⟩ (.int .u8 ((now 6).toNat : Int))).setCell ⟨HS, 7, none⟩ (.int .u8 ((now 7).toNat : Int)))
      g1 s1 v1 g2 s2 v2 D1 D2 HN HS now now := by
  have y := (((((((x.setSafe 0 (now 0)).setSafe 1 (now 1)).setSafe 2 (now 2)).setSafe 3 (now 3)).setSafe 4 (now 4)).setSafe 5 (now 5)).setSafe 6 (now 6)).setSafe 7 (now 7)
  refine ⟨y.d1, y.d2, y.apart, y.aN, y.aS.ext ?_, y.n1, y.ne, y.lo, y.bel⟩
  intro j hj
  match j, hj with
  | 0, _ => rfl
  | 1, _ => rfl
  | 2, _ => rfl
  | 3, _ => rfl
  | 4, _ => rfl
  | 5, _ => rfl
  | 6, _ => rfl
  | 7, _ => rfl
end

/-- What the two arrays say of a device. -/
structure Says (D : DS) (now safe : Nat → UInt8) (n : Nat) : Prop where
  n8 : D.n = 8
  now : ∀ j, j < 8 → D.seen j = blk (now j)
  safe : ∀ j, j < 8 → D.safe j = blk (safe j)
  len : D.held.length = n
  left : D.left < 0
  next : D.next ≤ 0

theorem Says.wrote {D : DS} {now safe : Nat → UInt8} {n : Nat} (h : Says D now safe n) (i : Nat) (c : UInt8) : Says (D.wrote i (blk c)) (updB now i c) safe (n + 1) := by
  refine ⟨h.n8, fun j hj => ?_, h.safe, ?_, ?_, ?_⟩
  · show upd D.seen i (blk c) j = blk (updB now i c j)
    unfold upd updB
    split
    · rfl
    · exact h.now j hj
  · show (D.held ++ [(i, blk c)]).length = n + 1
    rw [List.length_append, h.len]; rfl
  · show D.left - 1 < 0
    have := h.left; omega
  · show D.next - 1 ≤ 0
    have := h.next; omega

theorem Says.flushed {D : DS} {now safe : Nat → UInt8} {n b : Nat} (h : Says D now safe n) (hi : Inv b D) : Says D.flushed now now 0 := by
  refine ⟨h.n8, h.now, fun j hj => ?_, rfl, ?_, h.next⟩
  · show flN D.safe D.held D.held.length j = _
    rw [hi.seen]
    exact h.now j hj
  · show D.left - 1 < 0
    have := h.left; omega

theorem Says.all {D : DS} {now safe : Nat → UInt8} {n b : Nat} (h : Says D now safe n) (hi : Inv b D) (j : Nat) (hj : j < 8) : (D.crashed (List.replicate n 1)).seen j = blk (now j) := by
  show seN D.seen (crN D.safe D.held (List.replicate n 1) D.held.length) D.held D.held.length j = _
  rw [seN_all _ _ _ _ _ hi.seen, crN_ones hi.safe hi.held n h.len.symm _ (by rw [h.len]; exact Nat.le_refl _), hi.seen]
  exact h.now j hj

theorem Says.none {D : DS} {now safe : Nat → UInt8} {n b : Nat} (h : Says D now safe n) (hi : Inv b D) (j : Nat) (hj : j < 8) : (D.crashed []).seen j = blk (safe j) := by
  show seN D.seen (crN D.safe D.held [] D.held.length) D.held D.held.length j = _
  rw [seN_all _ _ _ _ _ hi.seen, crN_nil]
  exact h.safe j hj

theorem says_new : Says (D0 8) (fun _ => 0) (fun _ => 0) 0 := ⟨rfl, fun _ _ => rfl, fun _ _ => rfl, rfl, of_decide_eq_true rfl, of_decide_eq_true rfl⟩

def zero8 : Obj := .cells #[.int .u8 0, .int .u8 0, .int .u8 0, .int .u8 0, .int .u8 0, .int .u8 0, .int .u8 0, .int .u8 0] 54

theorem arr_zero (w : World) : Arr (w.alloc zero8) w.heap.size (fun _ => 0) := by
  refine ⟨_, _, heap_alloc_new w _, rfl, fun j hj => ?_⟩
  match j, hj with
  | 0, _ => rfl
  | 1, _ => rfl
  | 2, _ => rfl
  | 3, _ => rfl
  | 4, _ => rfl
  | 5, _ => rfl
  | 6, _ => rfl
  | 7, _ => rfl

theorem Dev.base {B B' : Nat} {w : World} {g gs : Nat} {hv : Value} {D : DS} (r : Dev B w g gs hv D) (hb : B' ≤ B) : Dev B' w g gs hv D :=
  ⟨r.dev, r.sec, owns_base r.own hb, Nat.le_trans hb r.gB, Nat.le_trans hb r.sB, r.ne, r.ng, r.ns⟩

theorem duo_new {W w1 w2 : World} {g1 s1 g2 s2 : Nat} (d1 : Dev W.heap.size w1 g1 s1 (.slice none 0 0) (D0 8)) (k1 : Below W.heap.size W w1) (d2 : Dev w1.heap.size w2 g2 s2 (.slice none 0 0) (D0 8)) (k2 : Below w1.heap.size w1 w2) :
    Duo W ((w2.alloc zero8).alloc zero8) g1 s1 (.slice none 0 0) g2 s2 (.slice none 0 0) (D0 8) (D0 8) w2.heap.size (w2.heap.size + 1) (fun _ => 0) (fun _ => 0) := by
  have e1 := d1.below k2
  have k := below2 k1 k2
  have bb := below2 (below_alloc1 w2 zero8) (below_alloc1 (w2.alloc zero8) zero8)
  have z2 := arr_zero (w2.alloc zero8)
  rw [show (w2.alloc zero8).heap.size = w2.heap.size + 1 by simp] at z2
  refine ⟨e1.below bb, (d2.base k1.size).below bb, fun j p q => ?_, (arr_zero w2).kept ((below_alloc1 (w2.alloc zero8) zero8).block _ (by simp)), z2, ⟨fun p => ?_, fun p => ?_, fun p => ?_, fun p => ?_⟩, by omega, ⟨k.size, Nat.le_succ_of_le k.size⟩, below2 k bb⟩
  · have := d1.lt j p
    have := d2.from j q
    omega
  · have := e1.lt _ p; omega
  · have := d2.lt _ p; omega
  · have := e1.lt _ p; omega
  · have := d2.lt _ p; omega

theorem ones_sl {w : World} {base : Nat} {v : Value} {n : Nat} (h : w.ownsRow base 3 1 v n (intC (List.replicate n 1))) : ∃ ka kc, v = .slice ka n kc ∧ SlI w ka (List.replicate n 1) ∧ ∀ b off, ka = some ⟨b, off, none⟩ → base ≤ b := by
  have h0 := h
  rcases h.2 with ⟨rfl, rfl⟩ | ⟨g, cap, cur, rfl, hb, _⟩
  · exact ⟨none, 0, rfl, Or.inl rfl, fun b off e => by cases e⟩
  · refine ⟨_, cap, rfl, Or.inr ⟨g, 0, rfl, (h0.lt g rfl).2, ?_⟩, fun b off e => by cases e; exact hb⟩
    intro i y hy
    have hlt : i < n := by have := (List.getElem?_eq_some_iff.1 hy).1; simpa using this
    rw [Nat.zero_add, h0.cellAt i (by omega)]
    rw [intC, List.getElem?_map, hy]
    rfl

theorem ones_push (k : Nat) : intC (List.replicate k 1) ++ [.int .i64 1] = intC (List.replicate (k + 1) 1) := by
  rw [intC, intC, List.replicate_succ', List.map_append]
  rfl

end Go.Proofs.Ythodnhcnaeajnaa

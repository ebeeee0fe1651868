/- The document's device, in memory. -/
import Derived.Test.YtghocbaafdnddaaGreatQFind
namespace Go.Proofs.YtghocbaafdnddaaGreat
open Go.RowKit

/-- What the document's device has. -/
structure RS where
  n : Nat
  seen : Nat → ByteArray
  safe : Nat → ByteArray
  held : List (Nat × ByteArray)
  left : Int
  refuse : Int
  armed : Bool
  ops : Int

/-- Its rows. -/
structure RH where
  ge : Nat
  ce : Nat
  ga : Nat
  ca : Nat
  hv : Value

def strC (f : Nat → ByteArray) (n : Nat) : List Value := (List.range n).map (fun i => .string (f i))
theorem strC_length (f : Nat → ByteArray) (n : Nat) : (strC f n).length = n := by simp [strC]
theorem strC_get (f : Nat → ByteArray) (n i : Nat) (h : i < n) : (strC f n)[i]? = some (.string (f i)) := by simp [strC, h]
theorem strC_set (f : Nat → ByteArray) (n i : Nat) (s : ByteArray) : (strC f n).set i (.string s) = strC (upd f i s) n := by
  apply List.ext_getElem?
  intro j
  rw [List.getElem?_set, strC_length]
  by_cases hj : j < n
  · by_cases e : i = j
    · subst e; rw [if_pos rfl, if_pos hj, strC_get _ _ _ hj]; simp [upd]
    · rw [if_neg e, strC_get _ _ _ hj, strC_get _ _ _ hj]; simp [upd, Ne.symm e]
  · by_cases e : i = j
    · subst e; rw [if_pos rfl, if_neg hj, List.getElem?_eq_none (by rw [strC_length]; omega)]
    · rw [if_neg e, List.getElem?_eq_none (by rw [strC_length]; omega), List.getElem?_eq_none (by rw [strC_length]; omega)]
theorem strC_one (f : Nat → ByteArray) (n : Nat) : ∀ u ∈ strC f n, u.oneCell' = true := by
  intro u hu
  simp only [strC, List.mem_map] at hu
  obtain ⟨i, _, rfl⟩ := hu
  rfl
theorem strC_succ (z : ByteArray) (n : Nat) : strC (fun _ => z) n ++ [.string z] = strC (fun _ => z) (n + 1) := by simp [strC, List.range_succ]

def rfoot (g : Nat) (h : RH) (k : Nat) : Prop := k = g ∨ k = h.ge ∨ k = h.ga ∨ h.hv.ownBlock = some k

structure RDev (B : Nat) (w : World) (g : Nat) (h : RH) (Q : RS) : Prop where
  dev : w.heap[g]? = some (.cells #[.slice (some ⟨h.ge, 0, none⟩) Q.n h.ce, .slice (some ⟨h.ga, 0, none⟩) Q.n h.ca, h.hv, .int .i64 Q.left, .int .i64 Q.refuse, .bool Q.armed, .int .i64 Q.ops] 73 (0, 0))
  seen : w.ownsRow B 9 1 (.slice (some ⟨h.ge, 0, none⟩) Q.n h.ce) Q.n (strC Q.seen Q.n)
  safe : w.ownsRow B 9 1 (.slice (some ⟨h.ga, 0, none⟩) Q.n h.ca) Q.n (strC Q.safe Q.n)
  held : w.ownsRow B 100 2 h.hv Q.held.length (hcells Q.held)
  gB : B ≤ g
  ne : h.ge ≠ h.ga

theorem owns_type {w : World} {base e size : Nat} {v : Value} {n : Nat} {xs : List Value} (ho : w.ownsRow base e size v n xs) (k : Nat) (hk : v.ownBlock = some k) : ∃ cur, w.heap[k]? = some (.cells cur e (0, 0)) := by
  rcases ho.2 with ⟨rfl, _⟩ | ⟨b, cap, cur, rfl, _, hb, _⟩
  · simp [Value.ownBlock] at hk
  · simp [Value.ownBlock] at hk
    subst hk
    exact ⟨cur, hb⟩

/-- Rows of two types are two rows. -/
theorem owns_apart {w : World} {b1 b2 e1 e2 s1 s2 : Nat} {v1 v2 : Value} {n1 n2 : Nat} {x1 x2 : List Value} (h1 : w.ownsRow b1 e1 s1 v1 n1 x1) (h2 : w.ownsRow b2 e2 s2 v2 n2 x2) (ne : e1 ≠ e2) (k : Nat) (hk1 : v1.ownBlock = some k) (hk2 : v2.ownBlock = some k) : False := by
  obtain ⟨c1, p1⟩ := owns_type h1 k hk1
  obtain ⟨c2, p2⟩ := owns_type h2 k hk2
  rw [p1] at p2
  injection p2 with p2
  injection p2 with _ p2
  exact ne p2

theorem owns_not {w : World} {b e s t : Nat} {v : Value} {n g : Nat} {x : List Value} {c : Array Value} (h : w.ownsRow b e s v n x) (hg : w.heap[g]? = some (.cells c t (0, 0))) (ne : e ≠ t) : v.ownBlock ≠ some g := by
  intro hk
  obtain ⟨c1, p1⟩ := owns_type h g hk
  rw [p1] at hg
  injection hg with p2
  injection p2 with _ p2
  exact ne p2

section
variable {B : Nat} {w w' : World} {g : Nat} {h : RH} {Q : RS}

theorem RDev.ng (r : RDev B w g h Q) : h.ge ≠ g ∧ h.ga ≠ g ∧ h.hv.ownBlock ≠ some g ∧ h.hv.ownBlock ≠ some h.ge ∧ h.hv.ownBlock ≠ some h.ga :=
  ⟨fun e => owns_not r.seen r.dev (by decide) (by rw [e]; rfl), fun e => owns_not r.safe r.dev (by decide) (by rw [e]; rfl), owns_not r.held r.dev (by decide),
   fun e => owns_apart r.held r.seen (by decide) _ e rfl, fun e => owns_apart r.held r.safe (by decide) _ e rfl⟩

theorem RDev.lt (r : RDev B w g h Q) : ∀ k, rfoot g h k → k < w.heap.size := by
  rintro k (rfl | rfl | rfl | hk)
  · exact (Array.getElem?_eq_some_iff.1 r.dev).1
  · exact (r.seen.lt _ rfl).2
  · exact (r.safe.lt _ rfl).2
  · exact (r.held.lt k hk).2

theorem RDev.from (r : RDev B w g h Q) : ∀ k, rfoot g h k → B ≤ k := by
  rintro k (rfl | rfl | rfl | hk)
  · exact r.gB
  · exact (r.seen.lt _ rfl).1
  · exact (r.safe.lt _ rfl).1
  · exact (r.held.lt k hk).1

theorem RDev.kept (r : RDev B w g h Q) (hk : ∀ k, rfoot g h k → w'.heap[k]? = w.heap[k]?) : RDev B w' g h Q :=
  ⟨(hk g (Or.inl rfl)).trans r.dev, owns_kept r.seen (fun k e _ => hk k (by simp [Value.ownBlock] at e; exact Or.inr (Or.inl e.symm))), owns_kept r.safe (fun k e _ => hk k (by simp [Value.ownBlock] at e; exact Or.inr (Or.inr (Or.inl e.symm)))),
   owns_kept r.held (fun k e _ => hk k (Or.inr (Or.inr (Or.inr e)))), r.gB, r.ne⟩

theorem RDev.below (r : RDev B w g h Q) (hb : Below w.heap.size w w') : RDev B w' g h Q := r.kept (fun k hk => hb.block k (r.lt k hk))

theorem RDev.apart {F : Nat → Prop} (r : RDev B w g h Q) (hf : Fr F w w') (hF : ∀ k, rfoot g h k → ¬ F k) : RDev B w' g h Q :=
  r.kept (fun k hk => hf.block k (r.lt k hk) (hF k hk))

theorem RDev.cell (r : RDev B w g h Q) :
    w.cell? ⟨g, 0, none⟩ = some (.slice (some ⟨h.ge, 0, none⟩) Q.n h.ce) ∧ w.cell? ⟨g, 1, none⟩ = some (.slice (some ⟨h.ga, 0, none⟩) Q.n h.ca) ∧ w.cell? ⟨g, 2, none⟩ = some h.hv ∧
    w.cell? ⟨g, 3, none⟩ = some (.int .i64 Q.left) ∧ w.cell? ⟨g, 4, none⟩ = some (.int .i64 Q.refuse) ∧ w.cell? ⟨g, 5, none⟩ = some (.bool Q.armed) ∧ w.cell? ⟨g, 6, none⟩ = some (.int .i64 Q.ops) := by
  have := r.dev
  simp [World.cell?, this]

theorem RDev.free (r : RDev B w g h Q) (o : Nat) : w.frozen? ⟨g, o, none⟩ = false := frozen_of_row w g o _ _ r.dev

theorem RDev.cellSeen (r : RDev B w g h Q) (i : Nat) (hi : i < Q.n) : w.cell? ⟨h.ge, i, none⟩ = some (.string (Q.seen i)) := by
  rw [r.seen.cellAt i (by omega)]
  exact strC_get _ _ _ hi

theorem RDev.cellSafe (r : RDev B w g h Q) (i : Nat) (hi : i < Q.n) : w.cell? ⟨h.ga, i, none⟩ = some (.string (Q.safe i)) := by
  rw [r.safe.cellAt i (by omega)]
  exact strC_get _ _ _ hi

/-- A field of the device is set; its rows stay. -/
theorem RDev.rows_set (r : RDev B w g h Q) (o : Nat) (u : Value) :
    (w.setCell ⟨g, o, none⟩ u).ownsRow B 9 1 (.slice (some ⟨h.ge, 0, none⟩) Q.n h.ce) Q.n (strC Q.seen Q.n) ∧ (w.setCell ⟨g, o, none⟩ u).ownsRow B 9 1 (.slice (some ⟨h.ga, 0, none⟩) Q.n h.ca) Q.n (strC Q.safe Q.n) ∧
    (w.setCell ⟨g, o, none⟩ u).ownsRow B 100 2 h.hv Q.held.length (hcells Q.held) := by
  obtain ⟨n1, n2, n3, _⟩ := r.ng
  exact ⟨owns_kept r.seen (fun k e _ => Below.heap_setCell _ _ _ _ (by rintro rfl; simp [Value.ownBlock] at e; exact n1 e)), owns_kept r.safe (fun k e _ => Below.heap_setCell _ _ _ _ (by rintro rfl; simp [Value.ownBlock] at e; exact n2 e)),
    owns_kept r.held (fun k e _ => Below.heap_setCell _ _ _ _ (by rintro rfl; exact n3 e))⟩

theorem RDev.setLeft (r : RDev B w g h Q) (x : Int) : RDev B (w.setCell ⟨g, 3, none⟩ (.int .i64 x)) g h { Q with left := x } := by
  obtain ⟨a, b, c⟩ := r.rows_set 3 (.int .i64 x)
  exact ⟨by simpa using heap_setCell_same w g 3 _ _ (.int .i64 x) r.dev, a, b, c, r.gB, r.ne⟩
theorem RDev.setRefuse (r : RDev B w g h Q) (x : Int) : RDev B (w.setCell ⟨g, 4, none⟩ (.int .i64 x)) g h { Q with refuse := x } := by
  obtain ⟨a, b, c⟩ := r.rows_set 4 (.int .i64 x)
  exact ⟨by simpa using heap_setCell_same w g 4 _ _ (.int .i64 x) r.dev, a, b, c, r.gB, r.ne⟩
theorem RDev.setArmed (r : RDev B w g h Q) (x : Bool) : RDev B (w.setCell ⟨g, 5, none⟩ (.bool x)) g h { Q with armed := x } := by
  obtain ⟨a, b, c⟩ := r.rows_set 5 (.bool x)
  exact ⟨by simpa using heap_setCell_same w g 5 _ _ (.bool x) r.dev, a, b, c, r.gB, r.ne⟩
theorem RDev.setOps (r : RDev B w g h Q) (x : Int) : RDev B (w.setCell ⟨g, 6, none⟩ (.int .i64 x)) g h { Q with ops := x } := by
  obtain ⟨a, b, c⟩ := r.rows_set 6 (.int .i64 x)
  exact ⟨by simpa using heap_setCell_same w g 6 _ _ (.int .i64 x) r.dev, a, b, c, r.gB, r.ne⟩

/-- A text of the row of what is seen is set. -/
theorem RDev.setSeen (r : RDev B w g h Q) (i : Nat) (s : ByteArray) : RDev B (w.setCell ⟨h.ge, i, none⟩ (.string s)) g h { Q with seen := upd Q.seen i s } := by
  obtain ⟨n1, n2, n3, n4, n5⟩ := r.ng
  have hs := (r.seen.stored i (.string s)).1
  rw [strC_set] at hs
  exact ⟨by rw [Below.heap_setCell _ _ _ _ (Ne.symm n1)]; exact r.dev, hs, owns_kept r.safe (fun k e _ => Below.heap_setCell _ _ _ _ (by rintro rfl; simp [Value.ownBlock] at e; exact r.ne e.symm)), owns_kept r.held (fun k e _ => Below.heap_setCell _ _ _ _ (by rintro rfl; exact n4 e)), r.gB, r.ne⟩
theorem RDev.setSafe (r : RDev B w g h Q) (i : Nat) (s : ByteArray) : RDev B (w.setCell ⟨h.ga, i, none⟩ (.string s)) g h { Q with safe := upd Q.safe i s } := by
  obtain ⟨n1, n2, n3, n4, n5⟩ := r.ng
  have hs := (r.safe.stored i (.string s)).1
  rw [strC_set] at hs
  exact ⟨by rw [Below.heap_setCell _ _ _ _ (Ne.symm n2)]; exact r.dev, owns_kept r.seen (fun k e _ => Below.heap_setCell _ _ _ _ (by rintro rfl; simp [Value.ownBlock] at e; exact r.ne e)), hs, owns_kept r.held (fun k e _ => Below.heap_setCell _ _ _ _ (by rintro rfl; exact n5 e)), r.gB, r.ne⟩

/-- Another row of what is flushed. -/
theorem RDev.newSafe (r : RDev B w g h Q) (ga ca : Nat) (f : Nat → ByteArray) (ho : w.ownsRow B 9 1 (.slice (some ⟨ga, 0, none⟩) Q.n ca) Q.n (strC f Q.n)) (ne : h.ge ≠ ga) :
    RDev B (w.setCell ⟨g, 1, none⟩ (.slice (some ⟨ga, 0, none⟩) Q.n ca)) g { h with ga := ga, ca := ca } { Q with safe := f } := by
  obtain ⟨a, _, c⟩ := r.rows_set 1 (.slice (some ⟨ga, 0, none⟩) Q.n ca)
  have n2 := owns_not ho r.dev (by decide)
  exact ⟨by simpa using heap_setCell_same w g 1 _ _ (.slice (some ⟨ga, 0, none⟩) Q.n ca) r.dev, a, owns_kept ho (fun k e _ => Below.heap_setCell _ _ _ _ (by rintro rfl; exact n2 e)), c, r.gB, ne⟩
theorem RDev.newSeen (r : RDev B w g h Q) (ge ce : Nat) (f : Nat → ByteArray) (ho : w.ownsRow B 9 1 (.slice (some ⟨ge, 0, none⟩) Q.n ce) Q.n (strC f Q.n)) (ne : ge ≠ h.ga) :
    RDev B (w.setCell ⟨g, 0, none⟩ (.slice (some ⟨ge, 0, none⟩) Q.n ce)) g { h with ge := ge, ce := ce } { Q with seen := f } := by
  obtain ⟨_, b, c⟩ := r.rows_set 0 (.slice (some ⟨ge, 0, none⟩) Q.n ce)
  have n2 := owns_not ho r.dev (by decide)
  exact ⟨by simpa using heap_setCell_same w g 0 _ _ (.slice (some ⟨ge, 0, none⟩) Q.n ce) r.dev, owns_kept ho (fun k e _ => Below.heap_setCell _ _ _ _ (by rintro rfl; exact n2 e)), b, c, r.gB, ne⟩

/-- Another list of writes. -/
theorem RDev.newHeld (r : RDev B w g h Q) (hv : Value) (L : List (Nat × ByteArray)) (ho : w.ownsRow B 100 2 hv L.length (hcells L)) :
    RDev B (w.setCell ⟨g, 2, none⟩ hv) g { h with hv := hv } { Q with held := L } := by
  obtain ⟨a, b, _⟩ := r.rows_set 2 hv
  have n2 := owns_not ho r.dev (by decide)
  exact ⟨by simpa using heap_setCell_same w g 2 _ _ hv r.dev, a, b, owns_kept ho (fun k e _ => Below.heap_setCell _ _ _ _ (by rintro rfl; exact n2 e)), r.gB, r.ne⟩

/-- Behind a growth of the list of writes, that list is set. -/
theorem RDev.pushed (r : RDev B w g h Q) (hg : w.grownBy w' h.hv.ownBlock) (hv : Value) (L : List (Nat × ByteArray)) (ho : w'.ownsRow B 100 2 hv L.length (hcells L)) :
    RDev B (w'.setCell ⟨g, 2, none⟩ hv) g { h with hv := hv } { Q with held := L } := by
  obtain ⟨n1, n2, n3, n4, n5⟩ := r.ng
  have eg : w'.heap[g]? = w.heap[g]? := hg.block g (r.lt g (Or.inl rfl)) (Ne.symm n3)
  have hd := eg.trans r.dev
  have m2 := owns_not ho hd (by decide)
  have a := owns_kept (w' := w') r.seen (fun k e hlt => hg.block k hlt (by simp [Value.ownBlock] at e; subst e; exact Ne.symm n4))
  have b := owns_kept (w' := w') r.safe (fun k e hlt => hg.block k hlt (by simp [Value.ownBlock] at e; subst e; exact Ne.symm n5))
  exact ⟨by simpa using heap_setCell_same w' g 2 _ _ hv hd, owns_kept a (fun k e _ => Below.heap_setCell _ _ _ _ (by rintro rfl; simp [Value.ownBlock] at e; exact n1 e)), owns_kept b (fun k e _ => Below.heap_setCell _ _ _ _ (by rintro rfl; simp [Value.ownBlock] at e; exact n2 e)), owns_kept ho (fun k e _ => Below.heap_setCell _ _ _ _ (by rintro rfl; exact m2 e)), r.gB, r.ne⟩

theorem RDev.cellHeld (r : RDev B w g h Q) (i : Nat) (p : Nat × ByteArray) (hi : Q.held[i]? = some p) :
    ∃ b cap, h.hv = .slice (some ⟨b, 0, none⟩) Q.held.length cap ∧ w.cell? ⟨b, i * 2, none⟩ = some (.int .i64 (p.1 : Int)) ∧ w.cell? ⟨b, i * 2 + 1, none⟩ = some (.string p.2) := by
  have hlt : i < Q.held.length := (List.getElem?_eq_some_iff.1 hi).1
  have h0 := r.held
  rcases r.held.2 with ⟨_, hn⟩ | ⟨b, cap, cur, e, _⟩
  · omega
  · rw [e] at h0 ⊢
    obtain ⟨c0, c1⟩ := hcells_get Q.held i p hi
    exact ⟨b, cap, rfl, by rw [h0.cellAt (i * 2) (by omega)]; exact c0, by rw [h0.cellAt (i * 2 + 1) (by omega)]; exact c1⟩

theorem RDev.hvOf (r : RDev B w g h Q) : ∃ a c, h.hv = .slice a Q.held.length c := by
  rcases r.held.2 with ⟨e, hn⟩ | ⟨b, cap, cur, e, _⟩
  · exact ⟨_, _, by rw [hn]; exact e⟩
  · exact ⟨_, _, e⟩
end

end Go.Proofs.YtghocbaafdnddaaGreat

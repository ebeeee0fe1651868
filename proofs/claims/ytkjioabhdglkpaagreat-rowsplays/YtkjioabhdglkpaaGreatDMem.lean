/- How a device lies in memory. -/
import Derived.Test.YtkjioabhdglkpaaGreatDAtomic
import Derived.Test.YtkjioabhdglkpaaGreatDClone
import Derived.Test.YtkjioabhdglkpaaGreatBase
namespace Go.Proofs.YtkjioabhdglkpaaGreat
open Go.RowKit


/-- What is there behind a call that changes the blocks of F alone. -/
structure Fr (F : Nat → Prop) (w w' : World) : Prop where
  os : w'.os = w.os
  tape : w'.tape = w.tape
  output : w'.output = w.output
  size : w.heap.size ≤ w'.heap.size
  block : ∀ k, k < w.heap.size → ¬ F k → w'.heap[k]? = w.heap[k]?

theorem Fr.refl (F : Nat → Prop) (w : World) : Fr F w w := ⟨rfl, rfl, rfl, Nat.le_refl _, fun _ _ _ => rfl⟩
theorem Fr.of_below {F : Nat → Prop} {w w' : World} (h : Below w.heap.size w w') : Fr F w w' := ⟨h.os, h.tape, h.output, h.size, fun k hk _ => h.block k hk⟩
theorem Fr.trans {F G : Nat → Prop} {a b c : World} (h : Fr F a b) (k : Fr G b c) (hG : ∀ i, i < a.heap.size → G i → F i) : Fr F a c :=
  ⟨k.os.trans h.os, k.tape.trans h.tape, k.output.trans h.output, Nat.le_trans h.size k.size, fun i hi hF => (k.block i (Nat.lt_of_lt_of_le hi h.size) (fun g => hF (hG i hi g))).trans (h.block i hi hF)⟩
theorem Fr.below {F : Nat → Prop} {B : Nat} {W w w' : World} (h : Fr F w w') (hb : Below B W w) (hB : B ≤ w.heap.size) (hF : ∀ k, F k → B ≤ k) : Below B W w' :=
  hb.trans ⟨h.os, h.tape, h.output, h.size, fun k hk => h.block k (by omega) (fun f => by have := hF k f; omega)⟩
theorem Fr.set {F : Nat → Prop} {w w' : World} (h : Fr F w w') {p : Addr} (hp : F p.block ∨ w.heap.size ≤ p.block) (u : Value) : Fr F w (w'.setCell p u) :=
  ⟨h.os, h.tape, h.output, by have := h.size; simpa [World.setCell] using this, fun k hk hF => by
    rw [Below.heap_setCell _ _ _ _ (by rintro rfl; rcases hp with hp | hp; exact hF hp; omega)]
    exact h.block k hk hF⟩
theorem Fr.alloc {F : Nat → Prop} {w w' : World} (h : Fr F w w') (o : Obj) : Fr F w (w'.alloc o) :=
  h.trans (G := F) (.of_below (below_alloc1 _ _)) (fun _ _ g => g)
theorem Fr.drew {F : Nat → Prop} {w w' : World} (h : Fr F w w') : Fr F w w'.drew := ⟨h.os, h.tape, h.output, h.size, h.block⟩

/-- What a device has. -/
structure DS where
  n : Nat
  safe : Nat → ByteArray
  seen : Nat → ByteArray
  held : List (Nat × ByteArray)
  ops : Int
  left : Int
  next : Int

/-- The cells of writes that are held back. -/
def hcells : List (Nat × ByteArray) → List Value
  | [] => []
  | p :: l => .int .i64 (p.1 : Int) :: .string p.2 :: hcells l

theorem hcells_length (l : List (Nat × ByteArray)) : (hcells l).length = l.length * 2 := by
  induction l with
  | nil => rfl
  | cons p l ih => simp [hcells, ih]; omega
theorem hcells_append (a b : List (Nat × ByteArray)) : hcells (a ++ b) = hcells a ++ hcells b := by
  induction a with
  | nil => rfl
  | cons p a ih => simp [hcells, ih]
theorem hcells_get (l : List (Nat × ByteArray)) (i : Nat) (p : Nat × ByteArray) (h : l[i]? = some p) : (hcells l)[i * 2]? = some (.int .i64 (p.1 : Int)) ∧ (hcells l)[i * 2 + 1]? = some (.string p.2) := by
  induction l generalizing i with
  | nil => simp at h
  | cons q l ih =>
    cases i with
    | zero => simp at h; subst h; simp [hcells]
    | succ i =>
      simp at h
      have := ih i h
      simp only [hcells, Nat.succ_mul]
      simpa using this

/-- A row of sectors: what is flushed, and what is latest. -/
def Secs (w : World) (gs n : Nat) (safe seen : Nat → ByteArray) : Prop :=
  ∃ cur : Array Value, w.heap[gs]? = some (.cells cur 114 (0, 0)) ∧ cur.size = n * 2 ∧ ∀ i, i < n → cur[i * 2]? = some (.string (safe i)) ∧ cur[i * 2 + 1]? = some (.string (seen i))

/-- The blocks of a device. -/
def foot (g gs : Nat) (hv : Value) (k : Nat) : Prop := k = g ∨ k = gs ∨ hv.ownBlock = some k

/-- A device in memory, its blocks from B on. -/
structure Dev (B : Nat) (w : World) (g gs : Nat) (hv : Value) (D : DS) : Prop where
  dev : w.heap[g]? = some (.cells #[.slice (some ⟨gs, 0, none⟩) D.n D.n, hv, .int .i64 D.ops, .int .i64 D.left, .int .i64 D.next] 109 (0, 0))
  sec : Secs w gs D.n D.safe D.seen
  own : w.ownsRow B 111 2 hv D.held.length (hcells D.held)
  gB : B ≤ g
  sB : B ≤ gs
  ne : g ≠ gs
  ng : hv.ownBlock ≠ some g
  ns : hv.ownBlock ≠ some gs

theorem owns_kept {w w' : World} {base e size : Nat} {v : Value} {n : Nat} {xs : List Value} (h : w.ownsRow base e size v n xs) (hb : ∀ k, v.ownBlock = some k → k < w.heap.size → w'.heap[k]? = w.heap[k]?) : w'.ownsRow base e size v n xs := by
  obtain ⟨h1, h2⟩ := h
  refine ⟨h1, ?_⟩
  rcases h2 with h2 | ⟨g, cap, cur, hv, hg, hh, r⟩
  · exact Or.inl h2
  · refine Or.inr ⟨g, cap, cur, hv, hg, ?_, r⟩
    have hlt : g < w.heap.size := (Array.getElem?_eq_some_iff.1 hh).1
    rw [hb g (by rw [hv]; rfl) hlt]
    exact hh

section
variable {B : Nat} {w w' : World} {g gs : Nat} {hv : Value} {D : DS}

theorem Dev.lt (h : Dev B w g gs hv D) : ∀ k, foot g gs hv k → k < w.heap.size := by
  rintro k (rfl | rfl | hk)
  · exact (Array.getElem?_eq_some_iff.1 h.dev).1
  · obtain ⟨cur, h1, _⟩ := h.sec
    exact (Array.getElem?_eq_some_iff.1 h1).1
  · exact (h.own.lt k hk).2

theorem Dev.from (h : Dev B w g gs hv D) : ∀ k, foot g gs hv k → B ≤ k := by
  rintro k (rfl | rfl | hk)
  · exact h.gB
  · exact h.sB
  · exact (h.own.lt k hk).1

/-- What a device is hangs on its blocks alone. -/
theorem Dev.kept (h : Dev B w g gs hv D) (hk : ∀ k, foot g gs hv k → w'.heap[k]? = w.heap[k]?) : Dev B w' g gs hv D := by
  obtain ⟨cur, h1, h2, h3⟩ := h.sec
  exact ⟨(hk g (Or.inl rfl)).trans h.dev, ⟨cur, (hk gs (Or.inr (Or.inl rfl))).trans h1, h2, h3⟩, owns_kept h.own (fun k e _ => hk k (Or.inr (Or.inr e))), h.gB, h.sB, h.ne, h.ng, h.ns⟩

theorem Dev.below (h : Dev B w g gs hv D) (hb : Below w.heap.size w w') : Dev B w' g gs hv D := h.kept (fun k hk => hb.block k (h.lt k hk))

theorem Dev.apart {F : Nat → Prop} (h : Dev B w g gs hv D) (hf : Fr F w w') (hF : ∀ k, foot g gs hv k → ¬ F k) : Dev B w' g gs hv D :=
  h.kept (fun k hk => hf.block k (h.lt k hk) (hF k hk))

theorem Dev.cell (h : Dev B w g gs hv D) :
    w.cell? ⟨g, 0, none⟩ = some (.slice (some ⟨gs, 0, none⟩) D.n D.n) ∧ w.cell? ⟨g, 1, none⟩ = some hv ∧ w.cell? ⟨g, 2, none⟩ = some (.int .i64 D.ops) ∧ w.cell? ⟨g, 3, none⟩ = some (.int .i64 D.left) ∧ w.cell? ⟨g, 4, none⟩ = some (.int .i64 D.next) := by
  have := h.dev
  simp [World.cell?, this]

theorem Dev.free (h : Dev B w g gs hv D) : (∀ o, w.frozen? ⟨g, o, none⟩ = false) ∧ ∀ o, w.frozen? ⟨gs, o, none⟩ = false := by
  obtain ⟨cur, h1, _⟩ := h.sec
  exact ⟨fun o => frozen_of_row w g o _ _ h.dev, fun o => frozen_of_row w gs o _ _ h1⟩

theorem Dev.cellSafe (h : Dev B w g gs hv D) (i : Nat) (hi : i < D.n) : w.cell? ⟨gs, i * 2, none⟩ = some (.string (D.safe i)) := by
  obtain ⟨cur, h1, _, h3⟩ := h.sec
  rw [cell_of_row w gs _ cur _ _ h1]
  exact (h3 i hi).1

theorem Dev.cellSeen (h : Dev B w g gs hv D) (i : Nat) (hi : i < D.n) : w.cell? ⟨gs, i * 2 + 1, none⟩ = some (.string (D.seen i)) := by
  obtain ⟨cur, h1, _, h3⟩ := h.sec
  rw [cell_of_row w gs _ cur _ _ h1]
  exact (h3 i hi).2

theorem Dev.setOps (h : Dev B w g gs hv D) (x : Int) : Dev B (w.setCell ⟨g, 2, none⟩ (.int .i64 x)) g gs hv { D with ops := x } := by
  obtain ⟨cur, h1, h2, h3⟩ := h.sec
  refine ⟨by simpa using heap_setCell_same w g 2 _ _ (.int .i64 x) h.dev, ⟨cur, ?_, h2, h3⟩, owns_kept h.own (fun k e _ => Below.heap_setCell _ _ _ _ (by rintro rfl; exact h.ng e)), h.gB, h.sB, h.ne, h.ng, h.ns⟩
  rw [Below.heap_setCell _ _ _ _ (Ne.symm h.ne)]
  exact h1

theorem Dev.setLeft (h : Dev B w g gs hv D) (x : Int) : Dev B (w.setCell ⟨g, 3, none⟩ (.int .i64 x)) g gs hv { D with left := x } := by
  obtain ⟨cur, h1, h2, h3⟩ := h.sec
  refine ⟨by simpa using heap_setCell_same w g 3 _ _ (.int .i64 x) h.dev, ⟨cur, ?_, h2, h3⟩, owns_kept h.own (fun k e _ => Below.heap_setCell _ _ _ _ (by rintro rfl; exact h.ng e)), h.gB, h.sB, h.ne, h.ng, h.ns⟩
  rw [Below.heap_setCell _ _ _ _ (Ne.symm h.ne)]
  exact h1

theorem Dev.setNext (h : Dev B w g gs hv D) (x : Int) : Dev B (w.setCell ⟨g, 4, none⟩ (.int .i64 x)) g gs hv { D with next := x } := by
  obtain ⟨cur, h1, h2, h3⟩ := h.sec
  refine ⟨by simpa using heap_setCell_same w g 4 _ _ (.int .i64 x) h.dev, ⟨cur, ?_, h2, h3⟩, owns_kept h.own (fun k e _ => Below.heap_setCell _ _ _ _ (by rintro rfl; exact h.ng e)), h.gB, h.sB, h.ne, h.ng, h.ns⟩
  rw [Below.heap_setCell _ _ _ _ (Ne.symm h.ne)]
  exact h1

/-- Another list of writes that are held back: a row of its own. -/
theorem Dev.setHeld (h : Dev B w g gs hv D) (hv' : Value) (L : List (Nat × ByteArray)) (ho : w.ownsRow B 111 2 hv' L.length (hcells L)) (ng : hv'.ownBlock ≠ some g) (ns : hv'.ownBlock ≠ some gs) :
    Dev B (w.setCell ⟨g, 1, none⟩ hv') g gs hv' { D with held := L } := by
  obtain ⟨cur, h1, h2, h3⟩ := h.sec
  refine ⟨by simpa using heap_setCell_same w g 1 _ _ hv' h.dev, ⟨cur, ?_, h2, h3⟩, owns_kept ho (fun k e _ => Below.heap_setCell _ _ _ _ (by rintro rfl; exact ng e)), h.gB, h.sB, h.ne, ng, ns⟩
  rw [Below.heap_setCell _ _ _ _ (Ne.symm h.ne)]
  exact h1

/-- A function, turned at one place. -/
def upd (f : Nat → ByteArray) (i : Nat) (s : ByteArray) : Nat → ByteArray := fun j => if j = i then s else f j

theorem Dev.setSafe (h : Dev B w g gs hv D) (i : Nat) (s : ByteArray) : Dev B (w.setCell ⟨gs, i * 2, none⟩ (.string s)) g gs hv { D with safe := upd D.safe i s } := by
  obtain ⟨cur, h1, h2, h3⟩ := h.sec
  refine ⟨?_, ⟨cur.setIfInBounds (i * 2) (.string s), heap_setCell_same w gs (i * 2) _ _ _ h1, by simpa using h2, ?_⟩, owns_kept h.own (fun k e _ => Below.heap_setCell _ _ _ _ (by rintro rfl; exact h.ns e)), h.gB, h.sB, h.ne, h.ng, h.ns⟩
  · rw [Below.heap_setCell _ _ _ _ h.ne]
    exact h.dev
  · intro j hj
    replace hj : j < D.n := hj
    obtain ⟨a, b⟩ := h3 j hj
    simp only [Array.getElem?_setIfInBounds, upd]
    by_cases e : j = i
    · subst e
      rw [if_pos rfl, if_pos (by omega), if_pos rfl, if_neg (by omega)]
      exact ⟨rfl, b⟩
    · rw [if_neg (by omega), if_neg e, if_neg (by omega)]
      exact ⟨a, b⟩

theorem Dev.setSeen (h : Dev B w g gs hv D) (i : Nat) (s : ByteArray) : Dev B (w.setCell ⟨gs, i * 2 + 1, none⟩ (.string s)) g gs hv { D with seen := upd D.seen i s } := by
  obtain ⟨cur, h1, h2, h3⟩ := h.sec
  refine ⟨?_, ⟨cur.setIfInBounds (i * 2 + 1) (.string s), heap_setCell_same w gs (i * 2 + 1) _ _ _ h1, by simpa using h2, ?_⟩, owns_kept h.own (fun k e _ => Below.heap_setCell _ _ _ _ (by rintro rfl; exact h.ns e)), h.gB, h.sB, h.ne, h.ng, h.ns⟩
  · rw [Below.heap_setCell _ _ _ _ h.ne]
    exact h.dev
  · intro j hj
    replace hj : j < D.n := hj
    obtain ⟨a, b⟩ := h3 j hj
    simp only [Array.getElem?_setIfInBounds, upd]
    by_cases e : j = i
    · subst e
      rw [if_neg (by omega), if_pos rfl, if_pos (by omega), if_pos rfl]
      exact ⟨a, rfl⟩
    · rw [if_neg (by omega), if_neg (by omega), if_neg e]
      exact ⟨a, b⟩

/-- A write that is held back, read. -/
theorem Dev.cellHeld (h : Dev B w g gs hv D) (i : Nat) (p : Nat × ByteArray) (hi : D.held[i]? = some p) :
    ∃ b cap, hv = .slice (some ⟨b, 0, none⟩) D.held.length cap ∧ w.cell? ⟨b, i * 2, none⟩ = some (.int .i64 (p.1 : Int)) ∧ w.cell? ⟨b, i * 2 + 1, none⟩ = some (.string p.2) := by
  have hlt : i < D.held.length := (List.getElem?_eq_some_iff.1 hi).1
  have h0 := h.own
  rcases h.own.2 with ⟨_, hn⟩ | ⟨b, cap, cur, rfl, _⟩
  · omega
  · obtain ⟨c0, c1⟩ := hcells_get D.held i p hi
    exact ⟨b, cap, rfl, by rw [h0.cellAt (i * 2) (by omega)]; exact c0, by rw [h0.cellAt (i * 2 + 1) (by omega)]; exact c1⟩
end

end Go.Proofs.YtkjioabhdglkpaaGreat

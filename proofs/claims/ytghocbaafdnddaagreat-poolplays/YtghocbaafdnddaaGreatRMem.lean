/- How the document's pool lies in memory. -/
import Derived.Test.YtghocbaafdnddaaGreatRBoth
import Derived.Test.YtghocbaafdnddaaGreatQWakes
namespace Go.Proofs.YtghocbaafdnddaaGreat
open Go.RowKit

/-- The cells of the document's frames. -/
def fc4 (f : Fm) : List Value := [.int .i64 (f.pg : Int), .int .i64 (f.pins : Int), .string f.s, .bool f.dirty]
def fcs : List Fm → List Value
  | [] => []
  | f :: l => fc4 f ++ fcs l

theorem fcs_len (l : List Fm) : (fcs l).length = l.length * 4 := by
  induction l with
  | nil => rfl
  | cons f l ih => simp [fcs, fc4, ih]; omega
theorem fcs_append (a b : List Fm) : fcs (a ++ b) = fcs a ++ fcs b := by
  induction a with
  | nil => rfl
  | cons f a ih => simp [fcs, ih]
theorem fcs_get (l : List Fm) (i j : Nat) (f : Fm) (h : l[i]? = some f) (hj : j < 4) : (fcs l)[i * 4 + j]? = (fc4 f)[j]? := by
  induction l generalizing i with
  | nil => simp at h
  | cons g l ih =>
    cases i with
    | zero =>
      simp at h
      subst h
      rw [fcs, Nat.zero_mul, Nat.zero_add, List.getElem?_append_left (by simpa [fc4] using hj)]
    | succ i =>
      simp at h
      have := ih i h
      rw [fcs, List.getElem?_append_right (by simp [fc4]; omega), ← this]
      congr 1
      simp [fc4]
      omega
theorem fcs_take (l : List Fm) (k : Nat) : (fcs l).take (k * 4) = fcs (l.take k) := by
  induction l generalizing k with
  | nil => simp [fcs]
  | cons f l ih =>
    cases k with
    | zero => simp [fcs]
    | succ k =>
      rw [List.take_succ_cons, fcs, fcs, List.take_append, ← ih k]
      have e : (fc4 f).length = 4 := rfl
      rw [e, List.take_of_length_le (by rw [e]; omega)]
      congr 2
      omega
theorem fcs_one (l : List Fm) : ∀ u ∈ fcs l, u.oneCell' = true := by
  induction l with
  | nil => intro u hu; cases hu
  | cons f l ih =>
    intro u hu
    rw [fcs] at hu
    rcases List.mem_append.1 hu with q | q
    · simp [fc4] at q
      rcases q with rfl | rfl | rfl | rfl <;> rfl
    · exact ih u q

structure RX where
  q : Nat
  g : Nat
  h : RH
  lv : Value
  n : Nat
  l : List Fm
  rd : Nat
  wr : Nat
  Q : RS

def RX.own (y : RX) (k : Nat) : Prop := k = y.q ∨ y.lv.ownBlock = some k
def RX.ft (y : RX) (k : Nat) : Prop := y.own k ∨ rfoot y.g y.h k

structure Rp (B : Nat) (w : World) (y : RX) : Prop where
  pool : w.heap[y.q]? = some (.cells #[.pointer (some ⟨y.g, 0, none⟩), .int .i64 (y.n : Int), y.lv, .int .i64 (y.rd : Int), .int .i64 (y.wr : Int)] 84 (0, 0))
  row : w.ownsRow B 93 4 y.lv y.l.length (fcs y.l)
  qB : B ≤ y.q
  dev : RDev B w y.g y.h y.Q

section
variable {B : Nat} {w w' : World} {y : RX}

theorem RDev.tag {g : Nat} {h : RH} {Q : RS} (r : RDev B w g h Q) {k : Nat} (hk : rfoot g h k) : tagOf w.heap[k]? = some 73 ∨ tagOf w.heap[k]? = some 9 ∨ tagOf w.heap[k]? = some 100 := by
  rcases hk with rfl | rfl | rfl | hk
  · rw [r.dev]; exact Or.inl rfl
  · exact Or.inr (Or.inl (own_tag r.seen rfl))
  · exact Or.inr (Or.inl (own_tag r.safe rfl))
  · exact Or.inr (Or.inr (own_tag r.held hk))

theorem Rp.tagOwn (h : Rp B w y) {k : Nat} (hk : y.own k) : tagOf w.heap[k]? = some 84 ∨ tagOf w.heap[k]? = some 93 := by
  rcases hk with rfl | hk
  · rw [h.pool]; exact Or.inl rfl
  · exact Or.inr (own_tag h.row hk)

theorem Rp.apart (h : Rp B w y) {k : Nat} (h1 : y.own k) (h2 : rfoot y.g y.h k) : False := by
  rcases h.tagOwn h1 with a | a <;> rcases h.dev.tag h2 with b | b | b <;> rw [a] at b <;> simp at b

theorem Rp.ltOwn (h : Rp B w y) {k : Nat} (hk : y.own k) : k < w.heap.size := by
  rcases hk with rfl | hk
  · exact lt_of_some h.pool
  · exact (h.row.lt k hk).2
theorem Rp.lt (h : Rp B w y) {k : Nat} (hk : y.ft k) : k < w.heap.size := hk.elim h.ltOwn (h.dev.lt k)
theorem Rp.from (h : Rp B w y) {k : Nat} (hk : y.ft k) : B ≤ k := by
  rcases hk with (rfl | hk) | hk
  · exact h.qB
  · exact (h.row.lt k hk).1
  · exact h.dev.from k hk
theorem Rp.kept (h : Rp B w y) (hk : ∀ k, y.ft k → w'.heap[k]? = w.heap[k]?) : Rp B w' y :=
  ⟨(hk _ (Or.inl (Or.inl rfl))).trans h.pool, owns_kept h.row (fun k e _ => hk k (Or.inl (Or.inr e))), h.qB, h.dev.kept (fun k e => hk k (Or.inr e))⟩
theorem Rp.below (h : Rp B w y) (hb : Below w.heap.size w w') : Rp B w' y := h.kept (fun k e => hb.block k (h.lt e))

theorem Rp.cell (h : Rp B w y) : w.cell? ⟨y.q, 0, none⟩ = some (.pointer (some ⟨y.g, 0, none⟩)) ∧ w.cell? ⟨y.q, 1, none⟩ = some (.int .i64 (y.n : Int)) ∧ w.cell? ⟨y.q, 2, none⟩ = some y.lv ∧ w.cell? ⟨y.q, 3, none⟩ = some (.int .i64 (y.rd : Int)) ∧ w.cell? ⟨y.q, 4, none⟩ = some (.int .i64 (y.wr : Int)) := by
  refine ⟨?_, ?_, ?_, ?_, ?_⟩ <;> simp [World.cell?, h.pool]
theorem Rp.free? (h : Rp B w y) (o : Nat) : w.frozen? ⟨y.q, o, none⟩ = false := by simp [World.frozen?, h.pool]
theorem Rp.lvOf (h : Rp B w y) : ∃ a c, y.lv = .slice a y.l.length c ∧ y.l.length ≤ c ∧ c ≤ maxLen := by
  rcases h.row.2 with ⟨e, n0⟩ | ⟨g, cap, cur, e, _, _, c, d, _⟩
  · rw [e, n0]; exact ⟨_, _, rfl, Nat.le_refl _, Nat.zero_le _⟩
  · exact ⟨_, _, e, c, d⟩
/-- A frame's cells. -/
theorem Rp.at (h : Rp B w y) {i : Nat} {f : Fm} (hi : y.l[i]? = some f) : ∃ a c, y.lv = .slice (some ⟨a, 0, none⟩) y.l.length c ∧ y.l.length ≤ c ∧ c ≤ maxLen ∧ B ≤ a ∧ a < w.heap.size ∧ i < y.l.length ∧
    w.cell? ⟨a, i * 4, none⟩ = some (.int .i64 (f.pg : Int)) ∧ w.cell? ⟨a, i * 4 + 1, none⟩ = some (.int .i64 (f.pins : Int)) ∧ w.cell? ⟨a, i * 4 + 2, none⟩ = some (.string f.s) ∧ w.cell? ⟨a, i * 4 + 3, none⟩ = some (.bool f.dirty) ∧ ∀ o, w.frozen? ⟨a, o, none⟩ = false := by
  have hlt : i < y.l.length := (List.getElem?_eq_some_iff.1 hi).1
  have h0 := h.row
  rcases h.row.2 with ⟨_, e⟩ | ⟨g, cap, cur, e, hb, hg, c, d, _⟩
  · omega
  · rw [e] at h0
    refine ⟨g, cap, e, c, d, hb, lt_of_some hg, hlt, ?_, ?_, ?_, ?_, fun o => by simp [World.frozen?, hg]⟩
    · rw [h0.cellAt _ (by omega)]; exact fcs_get _ i 0 f hi (by decide)
    · rw [h0.cellAt _ (by omega)]; exact fcs_get _ i 1 f hi (by decide)
    · rw [h0.cellAt _ (by omega)]; exact fcs_get _ i 2 f hi (by decide)
    · rw [h0.cellAt _ (by omega)]; exact fcs_get _ i 3 f hi (by decide)
end

/-- What a call makes of it. -/
structure RpTo (B : Nat) (w : World) (y y' : RX) (w' : World) : Prop where
  pd : Rp B w' y'
  fr : Fr y.ft w w'
  q : y'.q = y.q
  g : y'.g = y.g
  n : y'.n = y.n
  new : ∀ k, y'.ft k → y.ft k ∨ w.heap.size ≤ k

section
variable {B : Nat} {w w' w1 w2 : World} {y y1 y2 : RX}
theorem RpTo.refl (h : Rp B w y) : RpTo B w y y w := ⟨h, Fr.refl _ _, rfl, rfl, rfl, fun _ e => Or.inl e⟩
theorem RpTo.of_below (h : Rp B w y) (hb : Below w.heap.size w w') : RpTo B w y y w' := ⟨h.below hb, Fr.of_below hb, rfl, rfl, rfl, fun _ e => Or.inl e⟩
theorem RpTo.trans (h : RpTo B w y y1 w1) (k : RpTo B w1 y1 y2 w2) : RpTo B w y y2 w2 :=
  ⟨k.pd, h.fr.trans k.fr (fun i hi e => (h.new i e).resolve_right (by omega)), k.q.trans h.q, k.g.trans h.g, k.n.trans h.n,
    fun i e => (k.new i e).elim (h.new i) (fun q => Or.inr (Nat.le_trans h.fr.size q))⟩
theorem RpTo.below (h : RpTo B w y y1 w1) (hb : Below w1.heap.size w1 w2) : RpTo B w y y1 w2 := h.trans (.of_below h.pd hb)

/-- A call of the device. -/
theorem Rp.devTo (h : Rp B w y) {Q' : RS} (hd : RTo B w y.g y.h Q' w') : ∃ h', RpTo B w y { y with h := h', Q := Q' } w' := by
  obtain ⟨h', d', f, new⟩ := hd
  have hk : ∀ k, y.own k → w'.heap[k]? = w.heap[k]? := fun k e => f.block k (h.ltOwn e) (fun q => h.apart e q)
  refine ⟨h', ⟨⟨(hk _ (Or.inl rfl)).trans h.pool, owns_kept h.row (fun k e _ => hk k (Or.inr e)), h.qB, d'⟩, ?_, rfl, rfl, rfl, ?_⟩⟩
  · exact ⟨f.os, f.tape, f.output, f.size, fun k hk hn => f.block k hk (fun q => hn (Or.inr q))⟩
  · rintro k (e | e)
    · exact Or.inl (Or.inl e)
    · exact (new k e).imp Or.inr id

/-- Its own block is changed. -/
theorem Rp.setQ (h : Rp B w y) (lv : Value) (l : List Fm) (rd wr : Nat) (hs : Fr (fun k => k = y.q) w w') (hp : w'.heap[y.q]? = some (.cells #[.pointer (some ⟨y.g, 0, none⟩), .int .i64 (y.n : Int), lv, .int .i64 (rd : Int), .int .i64 (wr : Int)] 84 (0, 0)))
    (hr : w.ownsRow B 93 4 lv l.length (fcs l)) (hnew : ∀ k, lv.ownBlock = some k → y.ft k ∨ w'.heap.size ≤ k ∨ True) : Rp B w' { y with lv := lv, l := l, rd := rd, wr := wr } := by
  have _ := hnew
  have hq : ∀ k, lv.ownBlock = some k → k ≠ y.q := fun k e z => by
    have t := own_tag hr e
    rw [z, h.pool] at t
    simp [tagOf] at t
  refine ⟨hp, owns_kept hr (fun k e hk => hs.block k hk (hq k e)), h.qB, h.dev.kept (fun k e => hs.block k (h.dev.lt k e) (by rintro rfl; exact h.apart (Or.inl rfl) e))⟩

theorem Rp.setRd (h : Rp B w y) (k : Nat) : RpTo B w y { y with rd := k } (w.setCell ⟨y.q, 3, none⟩ (.int .i64 (k : Int))) :=
  ⟨h.setQ y.lv y.l k y.wr (fr_set w y.q 3 _) (by simpa using heap_setCell_same w y.q 3 _ _ (.int .i64 (k : Int)) h.pool) h.row (fun _ _ => Or.inr (Or.inr trivial)),
    Fr.set (F := y.ft) (Fr.refl _ _) (p := ⟨y.q, 3, none⟩) (Or.inl (Or.inl (Or.inl rfl))) _, rfl, rfl, rfl, fun _ e => Or.inl e⟩
theorem Rp.setWr (h : Rp B w y) (k : Nat) : RpTo B w y { y with wr := k } (w.setCell ⟨y.q, 4, none⟩ (.int .i64 (k : Int))) :=
  ⟨h.setQ y.lv y.l y.rd k (fr_set w y.q 4 _) (by simpa using heap_setCell_same w y.q 4 _ _ (.int .i64 (k : Int)) h.pool) h.row (fun _ _ => Or.inr (Or.inr trivial)),
    Fr.set (F := y.ft) (Fr.refl _ _) (p := ⟨y.q, 4, none⟩) (Or.inl (Or.inl (Or.inl rfl))) _, rfl, rfl, rfl, fun _ e => Or.inl e⟩
/-- Another row, made behind it. -/
theorem Rp.setLv (h : Rp B w y) (lv : Value) (l : List Fm) (N : Nat) (hr : w.ownsRow B 93 4 lv l.length (fcs l)) (hN : ∀ k, lv.ownBlock = some k → N ≤ k) : Rp B (w.setCell ⟨y.q, 2, none⟩ lv) { y with lv := lv, l := l } ∧ Fr y.ft w (w.setCell ⟨y.q, 2, none⟩ lv) ∧ ∀ k, ({ y with lv := lv, l := l } : RX).ft k → y.ft k ∨ N ≤ k := by
  refine ⟨h.setQ lv l y.rd y.wr (fr_set w y.q 2 _) (by simpa using heap_setCell_same w y.q 2 _ _ lv h.pool) hr (fun _ _ => Or.inr (Or.inr trivial)), Fr.set (F := y.ft) (Fr.refl _ _) (p := ⟨y.q, 2, none⟩) (Or.inl (Or.inl (Or.inl rfl))) _, ?_⟩
  rintro k ((e | e) | e)
  · exact Or.inl (Or.inl (Or.inl e))
  · exact Or.inr (hN k e)
  · exact Or.inl (Or.inr e)
end

end Go.Proofs.YtghocbaafdnddaaGreat

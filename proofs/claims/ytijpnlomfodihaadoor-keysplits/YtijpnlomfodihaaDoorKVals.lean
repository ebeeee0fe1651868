/- Lists of values: how they lie in memory; among a statement's arguments; copied. -/
import Derived.Test.YtijpnlomfodihaaDoorKMath
import Derived.Test.YtijpnlomfodihaaDoorVKindAt
import Derived.Deep.Slices
import Derived.Deep.Strs
import Derived.Lib.SmallJoins
import Derived.ProofKit
import Derived.OpenShut
import Derived.Laws.AppendOwnNone
namespace Go.Proofs.YtijpnlomfodihaaDoor
open Go.RowKit Go.ChangeShapes Go.WideShapes Go.ChangeAt Go.Deep

theorem Tryd.cellsV : Tryd.prog.cellsOf 43 = 3 := by kernel_rfl
theorem Tryd.cellsInt : Tryd.prog.cellsOf 3 = 1 := by kernel_rfl
theorem Tryd.cellsLong : Tryd.prog.cellsOf 2 = 1 := by kernel_rfl
theorem Tryd.cellsStr : Tryd.prog.cellsOf 9 = 1 := by kernel_rfl
theorem Tryd.info43 : (Tryd.prog.info? 43).map (fun i => (i.zero, i.size, i.bytes)) = some (some (.agg #[.int .i64 0, .int .i64 0, .string ⟨#[]⟩]), 3, 32) := by kernel_rfl

/-- Values that lie one behind the other. -/
def RdV (w : World) (b off : Nat) (L : List V) : Prop := ∀ i p, L[i]? = some p →
  w.cell? ⟨b, off + i * 3, none⟩ = some (.int .i64 p.k) ∧ w.cell? ⟨b, off + i * 3 + 1, none⟩ = some (.int .i64 p.n) ∧ w.cell? ⟨b, off + i * 3 + 2, none⟩ = some (.string p.s)

theorem RdV.kept {w w' : World} {B b off : Nat} {L : List V} (h : RdV w b off L) (hb : Below B w w') (hB : b < B) : RdV w' b off L := by
  intro i p hp
  obtain ⟨h0, h1, h2⟩ := h i p hp
  exact ⟨(hb.cell (p := ⟨b, _, none⟩) hB).trans h0, (hb.cell (p := ⟨b, _, none⟩) hB).trans h1, (hb.cell (p := ⟨b, _, none⟩) hB).trans h2⟩

/-- A list of values in memory, wherever it lies; an empty one anywhere. -/
def SlV (w : World) (a : Option Addr) (L : List V) : Prop := L = [] ∨ ∃ b off, a = some ⟨b, off, none⟩ ∧ b < w.heap.size ∧ RdV w b off L

theorem SlV.kept {w w' : World} {a : Option Addr} {L : List V} (h : SlV w a L) (hb : Below w.heap.size w w') : SlV w' a L := by
  rcases h with h | ⟨b, off, e, hlt, hr⟩
  · exact Or.inl h
  · exact Or.inr ⟨b, off, e, by have := hb.size; omega, hr.kept hb hlt⟩

section
variable {H : Type} {enc : TypeId × Value → H} {W : World} {base : Nat}

set_option maxRecDepth 100000 in
/-- Three cells that read as a value are one. -/
theorem trod_value {fuel : Nat} {cs : List Value} {x : DataW H × List MemPlace} (h : DataW.trod enc Tryd.prog W 0 (fun _ => true) true fuel 43 cs = some x) :
    ∃ v : V, cs = v.cells ∧ v.ok ∧ v.s.size ≤ maxLen := by
  obtain ⟨y0, y1, y2, n, _, hl, h0, h1, h2⟩ := trod_struct3 Tryd.underlying43 h
  rw [Tryd.cellsV] at hl
  match cs, hl with
  | [a, b, c], _ =>
    obtain ⟨k, e0, _, w0⟩ := DataW.trod_int (t := 3) Tryd.underlying3 h0
    obtain ⟨m, e1, _, w1⟩ := DataW.trod_int (t := 2) Tryd.underlying2 h1
    obtain ⟨s, e2, _, w2⟩ := DataW.trod_string (t := 9) Tryd.underlying9 h2
    simp [Tryd.cellsInt, Tryd.cellsLong, Tryd.cellsStr] at e0 e1 e2
    subst e0 e1 e2
    exact ⟨⟨k, m, s⟩, rfl, ⟨(bounds_i64 w0).1, (bounds_i64 w0).2, (bounds_i64 w1).1, (bounds_i64 w1).2⟩, w2⟩

set_option maxRecDepth 100000 in
theorem open_values {v : Value} {d : DataW H} {ps : List MemPlace} (hv : Value.okWide Tryd.prog W .any base 22 v) (h : DataW.Trod enc Tryd.prog W 0 (fun _ => true) true 22 v d ps) :
    ∃ (a : Option Addr) (L : List V) (cap : Nat), v = .slice a L.length cap ∧ SlV W a L ∧ (∀ p ∈ L, p.ok ∧ p.s.size ≤ maxLen) ∧ L.length ≤ maxLen ∧ (a = none → cap = 0) := by
  obtain ⟨a0, len, cap, rfl⟩ := okWide_slice Tryd.underlying22 hv
  obtain ⟨fuel, hf⟩ := h
  rcases open_slice Tryd.underlying22 hf with ⟨hcs, _⟩ | ⟨a, l, c, m, n, D, Pl, hcs, _, hl, hm, hmm, _, hx⟩
  · simp [Value.cells] at hcs
    obtain ⟨rfl, rfl, rfl⟩ := hcs
    exact ⟨none, [], 0, rfl, Or.inl rfl, by simp, Nat.zero_le _, fun _ => rfl⟩
  · simp [Value.cells] at hcs
    obtain ⟨rfl, rfl, rfl⟩ := hcs
    have hml : len ≤ m := by rw [hmm]; split <;> omega
    rw [Tryd.cellsV] at hx
    have inst : Inhabited V := ⟨⟨0, 0, ⟨#[]⟩⟩⟩
    obtain ⟨f, hfn⟩ := choose_lt (α := V) (n := len) (p := fun i p => W.cells? 0 (a.add (i * 3)) 3 = some p.cells ∧ p.ok ∧ p.s.size ≤ maxLen) (fun i hi => by
      obtain ⟨cs', h1, h2⟩ := hx i (by omega)
      obtain ⟨p, rfl, hp⟩ := trod_value h2
      exact ⟨p, h1, hp⟩)
    have hlen : ((List.range len).map f).length = len := by simp
    refine ⟨some a, (List.range len).map f, cap, by rw [hlen], ?_, ?_, by rw [hlen]; omega, fun h => by cases h⟩
    · by_cases h0 : len = 0
      · subst h0; exact Or.inl rfl
      · right
        obtain ⟨b, off, spot⟩ := a
        have hc0 : W.cell? (⟨b, off, spot⟩ : Addr) = some (.int .i64 (f 0).k) := by
          have := (World.cells?_some (hfn 0 (by omega)).1).2.2 0 (by omega)
          simpa [V.cells, Addr.add] using this
        have hspot : spot = none := by simpa using World.cell?_spot hc0
        subst hspot
        refine ⟨b, off, rfl, World.block_lt_of_cell? W _ hc0, ?_⟩
        intro i p hp
        have hi : i < len := by
          have := (List.getElem?_eq_some_iff.1 hp).1
          simpa using this
        have hpe : p = f i := by
          simp [hi] at hp
          exact hp.symm
        subst hpe
        have hc := (World.cells?_some (hfn i hi).1).2.2
        have e0 := hc 0 (by omega)
        have e1 := hc 1 (by omega)
        have e2 := hc 2 (by omega)
        rw [Addr.add_lit, Addr.add_lit] at e0 e1 e2
        exact ⟨e0, e1, e2⟩
    · intro p hp
      simp only [List.mem_map, List.mem_range] at hp
      obtain ⟨i, hi, rfl⟩ := hp
      exact (hfn i hi).2
end

def cellsK : List V → List Value
  | [] => []
  | p :: l => p.cells ++ cellsK l

theorem cellsK_append (a b : List V) : cellsK (a ++ b) = cellsK a ++ cellsK b := by
  induction a with
  | nil => rfl
  | cons p a ih => simp [cellsK, ih]

theorem cellsK_length (a : List V) : (cellsK a).length = a.length * 3 := by
  induction a with
  | nil => rfl
  | cons p a ih => simp [cellsK, ih, V.cells]; omega

theorem cellsK_one (p : V) : cellsK [p] = p.cells := by simp [cellsK]

theorem vcells_one (p : V) : ∀ u ∈ p.cells, u.oneCell' = true := by
  intro u hu
  simp [V.cells] at hu
  rcases hu with rfl | rfl | rfl <;> rfl

theorem cellsK_get (L : List V) (i j : Nat) (p : V) (h : L[i]? = some p) (hj : j < 3) : (cellsK L)[i * 3 + j]? = p.cells[j]? := by
  induction L generalizing i with
  | nil => simp at h
  | cons q L ih =>
    cases i with
    | zero =>
      simp at h
      subst h
      simp only [cellsK, Nat.zero_mul, Nat.zero_add]
      rw [List.getElem?_append_left (by simp [V.cells]; omega)]
    | succ i =>
      simp at h
      simp only [cellsK]
      rw [List.getElem?_append_right (by simp [V.cells]; omega)]
      rw [← ih i h]
      congr 1
      simp [V.cells]
      omega

theorem cellsK_one_each (L : List V) : ∀ u ∈ cellsK L, u.oneCell' = true := by
  induction L with
  | nil => intro u hu; simp [cellsK] at hu
  | cons p l ih =>
    intro u hu
    rw [cellsK, List.mem_append] at hu
    rcases hu with h | h
    · exact vcells_one p u h
    · exact ih u h

theorem owns_below {w w' : World} {base e size : Nat} {v : Value} {n : Nat} {xs : List Value} (h : w.ownsRow base e size v n xs) (hb : Below w.heap.size w w') : w'.ownsRow base e size v n xs := by
  obtain ⟨h1, h2⟩ := h
  refine ⟨h1, ?_⟩
  rcases h2 with h2 | ⟨g, cap, cur, hv, hg, hh, r⟩
  · exact Or.inl h2
  · refine Or.inr ⟨g, cap, cur, hv, hg, ?_, r⟩
    have hlt : g < w.heap.size := (Array.getElem?_eq_some_iff.1 hh).1
    rw [hb.block g hlt]
    exact hh

/-- Values that the call owns can be read. -/
theorem owns_rdV {w : World} {base g cap : Nat} {L : List V} (h : w.ownsRow base 43 3 (.slice (some ⟨g, 0, none⟩) L.length cap) L.length (cellsK L)) : RdV w g 0 L := by
  intro i p hp
  have hc := h.cells (g := g) rfl
  have hat : ∀ j, j < 3 → ∀ u, p.cells[j]? = some u → w.cell? ⟨g, 0 + i * 3 + j, none⟩ = some u := by
    intro j hj u hu
    have := hc (i * 3 + j) u (by rw [cellsK_get L i j p hp hj]; exact hu)
    rw [Addr.add_lit] at this
    rw [Nat.add_assoc]
    exact this
  exact ⟨hat 0 (by omega) _ rfl, hat 1 (by omega) _ rfl, hat 2 (by omega) _ rfl⟩

theorem owns_slV {w : World} {base : Nat} {v : Value} {L : List V} (h : w.ownsRow base 43 3 v L.length (cellsK L)) : ∃ a cap, v = .slice a L.length cap ∧ SlV w a L ∧ (a = none → cap = 0) := by
  have h0 := h
  rcases h.2 with ⟨rfl, hn⟩ | ⟨g, cap, cur, rfl, _, hg, _⟩
  · have : L = [] := List.eq_nil_of_length_eq_zero hn
    subst this
    exact ⟨none, 0, rfl, Or.inl rfl, fun _ => rfl⟩
  · exact ⟨_, cap, rfl, Or.inr ⟨g, 0, rfl, (Array.getElem?_eq_some_iff.1 hg).1, owns_rdV h0⟩, fun h => by cases h⟩

theorem rdV_cells {w : World} {b off : Nat} {L : List V} (h : RdV w b off L) : ∀ j u, (cellsK L)[j]? = some u → w.cell? ((⟨b, off, none⟩ : Addr).add j) = some u := by
  intro j u hu
  have hj : j < (cellsK L).length := (List.getElem?_eq_some_iff.1 hu).1
  rw [cellsK_length] at hj
  have hi : j / 3 < L.length := by omega
  have hp : L[j / 3]? = some L[j / 3] := by simp [hi]
  have hq := cellsK_get L (j / 3) (j % 3) _ hp (by omega)
  rw [show j / 3 * 3 + j % 3 = j by omega, hu] at hq
  obtain ⟨h0, h1, h2⟩ := h (j / 3) _ hp
  rw [Addr.add_lit]
  have hm : j % 3 = 0 ∨ j % 3 = 1 ∨ j % 3 = 2 := by omega
  rcases hm with e | e | e
  · rw [e] at hq; simp [V.cells] at hq; rw [hq, show off + j = off + j / 3 * 3 by omega]; exact h0
  · rw [e] at hq; simp [V.cells] at hq; rw [hq, show off + j = off + j / 3 * 3 + 1 by omega]; exact h1
  · rw [e] at hq; simp [V.cells] at hq; rw [hq, show off + j = off + j / 3 * 3 + 2 by omega]; exact h2

/-- A row of values that the call owns, beside what was there. -/
structure VRow (w wr : World) (v : Value) (A : List V) : Prop where
  own : wr.ownsRow w.heap.size 43 3 v A.length (cellsK A)
  root : Below w.heap.size w wr

theorem VRow.below {w wr w1 : World} {v : Value} {A : List V} (h : VRow w wr v A) (hb : Below wr.heap.size wr w1) : VRow w w1 v A :=
  ⟨owns_below h.own hb, below2 h.root hb⟩

theorem VRow.alloc {w wr : World} {v : Value} {A : List V} (h : VRow w wr v A) (o : Obj) : VRow w (wr.alloc o) v A := h.below (below_alloc1 wr o)

theorem VRow.push {w wr w1 : World} {v v1 : Value} {p : V} {A : List V} (h : VRow w wr v A) (hg : wr.grownBy w1 v.ownBlock)
    (ho : w1.ownsRow w.heap.size 43 3 v1 (A.length + 1) (cellsK A ++ p.cells)) : VRow w w1 v1 (A ++ [p]) := by
  refine ⟨?_, h.root.grown hg h.root.size (fun k hk => (h.own.lt k hk).1)⟩
  rw [cellsK_append, cellsK_one]
  simpa using ho

theorem newV {w : World} {p : V} {t : TypeId} {H : Nat} (hH : w.heap.size = H) : ∀ j u, p.cells[j]? = some u → (w.alloc (.cells #[.int .i64 p.k, .int .i64 p.n, .string p.s] t)).cell? ((⟨H, 0, none⟩ : Addr).add j) = some u := by
  subst hH
  intro j u h
  match j, h with
  | 0, h => simp [V.cells] at h; subst h; simp [Addr.add]
  | 1, h => simp [V.cells] at h; subst h; simp [Addr.add]
  | 2, h => simp [V.cells] at h; subst h; simp [Addr.add]
  | j + 3, h => simp [V.cells] at h

set_option maxHeartbeats 400000 in
set_option maxRecDepth 100000 in
theorem kfew_nil (w : World) : Calls Tryd.prog 11 #[.slice none 0 0] w fun e w' => ∃ v, e = .returned v ∧ w'.ownsRow w.heap.size 43 3 v 0 (cellsK []) ∧ Below w.heap.size w w' := by
  obtain ⟨i0, hi, hz0, hz1, hz2⟩ := info_parts Tryd.info43
  have hmade : (w.alloc (.cells #[] 43)).ownsRow w.heap.size 43 3 (.slice (some ⟨w.heap.size, 0, none⟩) 0 0) 0 [] := World.ownsRow_made w #[] 0 (Nat.le_refl _) (Nat.zero_le _) rfl
  go_enter Tryd.func11, Tryd.ntmps11
  go_wp2_with (at_builtin; refine wpList_append_own_none rfl (.tmp 3) (.tmp 4) 22 rfl w.heap.size 43 i0 3 Tryd.underlying22 hi _ 0 [] rfl hmade rfl ?_)
  go_ret
  exact ⟨_, rfl, hmade, below_alloc1 _ _⟩

set_option maxHeartbeats 400000 in
set_option maxRecDepth 100000 in
theorem kfew_some (L : List V) (ad : Addr) (cap : Nat) (w : World) (hc : ∀ j u, (cellsK L)[j]? = some u → w.cell? (ad.add j) = some u) (hl : L.length ≤ 1000000) :
    Calls Tryd.prog 11 #[.slice (some ad) L.length cap] w fun e w' => ∃ v, e = .returned v ∧ w'.ownsRow w.heap.size 43 3 v L.length (cellsK L) ∧ Below w.heap.size w w' := by
  obtain ⟨i0, hi, hz0, hz1, hz2⟩ := info_parts Tryd.info43
  have hmade : (w.alloc (.cells #[] 43)).ownsRow w.heap.size 43 3 (.slice (some ⟨w.heap.size, 0, none⟩) 0 0) 0 [] := World.ownsRow_made w #[] 0 (Nat.le_refl _) (Nat.zero_le _) rfl
  have hc' : ∀ j u, (cellsK L)[j]? = some u → (w.alloc (.cells #[] 43)).cell? (ad.add j) = some u := fun j u hu => by
    have h1 := hc j u hu
    rw [World.cell?_alloc_some w _ _ (by rw [h1]; rfl)]
    exact h1
  go_enter Tryd.func11, Tryd.ntmps11
  go_wp2_with (at_builtin; refine wpList_append_own _ rfl (.tmp 3) (.tmp 4) 22 rfl w.heap.size 43 i0 (.agg #[.int .i64 0, .int .i64 0, .string ⟨#[]⟩]) 3 32 Tryd.underlying22 hi hz0 hz1 hz2 rfl (by decide) _ 0 [] rfl hmade ad L.length cap (cellsK L) rfl (cellsK_length L) hc' (cellsK_one_each L) (by unfold maxLen; omega) (by omega) (by simp) ?_; intro v3 w3 hown3 hgrow3 hnil3)
  go_ret
  refine ⟨_, rfl, by simpa using hown3, ?_⟩
  exact (below_alloc1 w _).trans ((Below.refl _ _).grown hgrow3 (by simp) (fun k hk => by cases hk; exact Nat.le_refl _))

theorem kfew_any (L : List V) (a : Option Addr) (cap : Nat) (w : World) (h : SlV w a L) (hn : a = none → cap = 0) (hl : L.length ≤ 1000000) :
    Calls Tryd.prog 11 #[.slice a L.length cap] w fun e w' => ∃ v, e = .returned v ∧ VRow w w' v L := by
  rcases h with rfl | ⟨b, off, rfl, hb, hr⟩
  · cases a with
    | none =>
      rw [hn rfl]
      refine (kfew_nil w).mono ?_
      rintro e w' ⟨v, rfl, ho, hb⟩
      exact ⟨v, rfl, ho, hb⟩
    | some ad =>
      refine (kfew_some [] ad cap w (by intro j u hu; simp [cellsK] at hu) (by simp)).mono ?_
      rintro e w' ⟨v, rfl, ho, hb⟩
      exact ⟨v, rfl, ho, hb⟩
  · refine (kfew_some L ⟨b, off, none⟩ cap w (rdV_cells hr) hl).mono ?_
    rintro e w' ⟨v, rfl, ho, hb⟩
    exact ⟨v, rfl, ho, hb⟩

end Go.Proofs.YtijpnlomfodihaaDoor

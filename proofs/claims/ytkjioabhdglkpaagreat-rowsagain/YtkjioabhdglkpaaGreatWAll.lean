/- Ids. -/
import Derived.Test.YtkjioabhdglkpaaGreatHOps
import Derived.Maps.Ext
import Derived.Maps.RangeWalk
import Derived.Laws.DeepStrings4
import Derived.Laws.StructEq
import Derived.Test.YtkjioabhdglkpaaGreatShelfI

section
namespace Go.Proofs.YtkjioabhdglkpaaGreat
open Go.RowKit

/-- The rows of a page's slots, by their slots, from the i-th on. -/
def entL : List Sl → Nat → List (Int × ByteArray)
  | [], _ => []
  | none :: l, i => entL l (i + 1)
  | some r :: l, i => ((i : Int), r) :: entL l (i + 1)
/-- What a heap has: places and rows. -/
def ent (n : Nat) (H : Hp) : List (Int × ByteArray) := (pgsN n).flatMap (fun i => (entL (H i) 0).map (fun x => (128 * (i : Int) + x.1, x.2)))

theorem entL_fst (l : List Sl) : ∀ i, (entL l i).map Prod.fst = slotsF l i := by
  induction l with
  | nil => intro i; rfl
  | cons s l ih => intro i; cases s <;> simp [entL, slotsF, ih]
theorem ent_fst (n : Nat) (H : Hp) : (ent n H).map Prod.fst = placesN n H := by
  unfold ent placesN
  rw [List.map_flatMap]
  congr 1
  funext i
  rw [← entL_fst, List.map_map, List.map_map]
  rfl
theorem mem_entL (l : List Sl) : ∀ (i : Nat) (k : Int) (r : ByteArray), (k, r) ∈ entL l i ↔ ∃ s : Nat, k = (i : Int) + (s : Int) ∧ l[s]? = some (some r) := by
  induction l with
  | nil => intro i k r; simp [entL]
  | cons x l ih =>
    intro i k r
    cases x with
    | none =>
      rw [show entL (none :: l) i = entL l (i + 1) from rfl, ih]
      constructor
      · rintro ⟨s, e, h⟩
        exact ⟨s + 1, by omega, by simpa using h⟩
      · rintro ⟨s, e, h⟩
        cases s with
        | zero => simp at h
        | succ s => exact ⟨s, by omega, by simpa using h⟩
    | some y =>
      rw [show entL (some y :: l) i = ((i : Int), y) :: entL l (i + 1) from rfl, List.mem_cons, ih]
      constructor
      · rintro (e | ⟨s, e, h⟩)
        · injection e with e1 e2
          exact ⟨0, by omega, by simp [e2]⟩
        · exact ⟨s + 1, by omega, by simpa using h⟩
      · rintro ⟨s, e, h⟩
        cases s with
        | zero =>
          have : y = r := by simpa using h
          exact Or.inl (by rw [this, e]; simp)
        | succ s => exact Or.inr ⟨s, by omega, by simpa using h⟩
theorem entL_nodup (l : List Sl) : ∀ i, (entL l i).Pairwise (fun a b => a.1 < b.1) := by
  induction l with
  | nil => intro i; exact List.Pairwise.nil
  | cons x l ih =>
    intro i
    cases x with
    | none => exact ih (i + 1)
    | some y =>
      refine List.pairwise_cons.2 ⟨?_, ih (i + 1)⟩
      rintro ⟨k, r⟩ h
      obtain ⟨s, e, _⟩ := (mem_entL l _ k r).1 h
      show (i : Int) < k
      omega

section
variable {n : Nat} {V V' : Nat → ByteArray} {H : Hp} {row : ByteArray}

theorem mem_ent (hf : ∀ i, (H i).length ≤ 127) (k : Int) (r : ByteArray) : (k, r) ∈ ent n H ↔ ∃ p s : Nat, k = 128 * (p : Int) + (s : Int) ∧ 1 ≤ p ∧ p < n ∧ s < 127 ∧ (H p)[s]? = some (some r) := by
  unfold ent
  rw [List.mem_flatMap]
  constructor
  · rintro ⟨p, hp, h⟩
    obtain ⟨⟨k', r'⟩, hk, e⟩ := List.mem_map.1 h
    injection e with e1 e2
    obtain ⟨s, e3, h3⟩ := (mem_entL _ _ _ _).1 hk
    obtain ⟨h1, h2⟩ := mem_pgs.1 hp
    have := (List.getElem?_eq_some_iff.1 h3).1
    have := hf p
    simp only at e1 e2
    exact ⟨p, s, by omega, h1, h2, by omega, by rw [← e2]; exact h3⟩
  · rintro ⟨p, s, e, h1, h2, _, h3⟩
    exact ⟨p, mem_pgs.2 ⟨h1, h2⟩, List.mem_map.2 ⟨((s : Int), r), (mem_entL _ _ _ _).2 ⟨s, by omega, h3⟩, by rw [e]⟩⟩
theorem ent_rise (hf : ∀ i, (H i).length ≤ 127) : (ent n H).Pairwise (fun a b => a.1 < b.1) := by
  unfold ent
  rw [List.pairwise_flatMap]
  refine ⟨fun p _ => ?_, ?_⟩
  · rw [List.pairwise_map]
    exact (entL_nodup (H p) 0).imp (fun {a b} h => by show 128 * (p : Int) + a.1 < 128 * (p : Int) + b.1; omega)
  · have hr : (pgsN n).Pairwise (· < ·) := by unfold pgsN; exact List.pairwise_lt_range'
    refine hr.imp (fun {a b} h => ?_)
    rintro x hx y hy
    obtain ⟨⟨k, r⟩, h1, rfl⟩ := List.mem_map.1 hx
    obtain ⟨⟨k', r'⟩, h2, rfl⟩ := List.mem_map.1 hy
    obtain ⟨s, e, q⟩ := (mem_entL _ _ _ _).1 h1
    obtain ⟨s', e', q'⟩ := (mem_entL _ _ _ _).1 h2
    have := (List.getElem?_eq_some_iff.1 q).1
    have := hf a
    show 128 * (a : Int) + k < 128 * (b : Int) + k'
    omega
theorem ent_nodup (hf : ∀ i, (H i).length ≤ 127) : (ent n H).Nodup := (ent_rise hf).imp (fun {a b} h e => by rw [e] at h; omega)
theorem ent_keys (hf : ∀ i, (H i).length ≤ 127) : ((ent n H).map Prod.fst).Nodup := by
  unfold List.Nodup
  rw [List.pairwise_map]
  exact (ent_rise hf).imp (fun {a b} h e => by omega)
theorem Vok.few (ok : Vok n V H) (i : Nat) : (H i).length ≤ 127 := Go.Proofs.YtkjioabhdglkpaaGreat.few (ok.fine i).room

theorem insL_get (l : List Sl) (row : ByteArray) (s : Nat) (r : ByteArray) : (insL l row)[s]? = some (some r) ↔ (s = first l ∧ r = row) ∨ (s ≠ first l ∧ l[s]? = some (some r)) := by
  unfold insL
  have hw := withF_first l
  have hlt := (List.getElem?_eq_some_iff.1 hw).1
  by_cases e : s = first l
  · subst e
    rw [List.getElem?_set_self hlt]
    constructor
    · intro h
      exact Or.inl ⟨rfl, by simpa using h.symm⟩
    · rintro (⟨_, rfl⟩ | ⟨h, _⟩)
      · rfl
      · exact absurd rfl h
  · rw [List.getElem?_set_ne (fun q => e q.symm)]
    have : (withF l)[s]? = some (some r) ↔ l[s]? = some (some r) := by
      unfold withF
      split
      · exact Iff.rfl
      · by_cases hs : s < l.length
        · rw [List.getElem?_append_left hs]
        · rw [List.getElem?_append_right (by omega), List.getElem?_eq_none (by omega : l.length ≤ s)]
          constructor
          · intro h
            cases hd : s - l.length with
            | zero => rw [hd] at h; simp at h
            | succ d => rw [hd] at h; simp at h
          · intro h; cases h
    rw [this]
    constructor
    · intro h; exact Or.inr ⟨e, h⟩
    · rintro (⟨q, _⟩ | ⟨_, h⟩)
      · exact absurd q e
      · exact h
theorem trim_get (l : List Sl) (s : Nat) (r : ByteArray) : (trimL l)[s]? = some (some r) ↔ l[s]? = some (some r) := by
  have hn : ∀ m, ∀ l : List Sl, l.length = m → ((trimL l)[s]? = some (some r) ↔ l[s]? = some (some r)) := by
    intro m
    induction m with
    | zero => intro l hl; rw [List.eq_nil_of_length_eq_zero hl]; simp [trim_nil]
    | succ m ih =>
      intro l hl
      obtain ⟨a, x, rfl⟩ : ∃ a x, l = a ++ [x] := by
        have h0 : l ≠ [] := by intro e; rw [e] at hl; simp at hl
        exact ⟨l.dropLast, l.getLast h0, (List.dropLast_concat_getLast h0).symm⟩
      cases x with
      | none =>
        rw [trim_none, ih a (by simpa using hl)]
        by_cases hs : s < a.length
        · rw [List.getElem?_append_left hs]
        · rw [List.getElem?_append_right (by omega), List.getElem?_eq_none (by omega : a.length ≤ s)]
          constructor
          · intro h; cases h
          · intro h
            cases hd : s - a.length with
            | zero => rw [hd] at h; simp at h
            | succ d => rw [hd] at h; simp at h
      | some y => rw [trim_some]
  exact hn _ l rfl
theorem delL_get (l : List Sl) (j s : Nat) (r : ByteArray) : (delL l (j : Int))[s]? = some (some r) ↔ s ≠ j ∧ l[s]? = some (some r) := by
  unfold delL
  rw [trim_get, Int.toNat_natCast]
  by_cases e : s = j
  · subst e
    rw [List.getElem?_set]
    simp only [if_true]
    constructor
    · intro h
      split at h <;> simp at h
    · rintro ⟨h, _⟩
      exact absurd rfl h
  · rw [List.getElem?_set_ne (fun q => e q.symm)]
    exact ⟨fun h => ⟨e, h⟩, fun h => h.2⟩

/-- A row more. -/
theorem ent_ins (ok : Vok n V H) (ok' : Vok n V' (insHH n H row)) (hs : row.size ≤ 400) {i : Nat} (hl : lowP n H row = some i) : (∀ r, (insHK n H row, r) ∉ ent n H) ∧ insHX n H row = 0 ∧ 128 ≤ insHK n H row ∧ insHK n H row < 128000 ∧ (ent n (insHH n H row)).Perm ((insHK n H row, row) :: ent n H) := by
  obtain ⟨h1, h2, h3, _⟩ := low_of hl
  have eK : insHK n H row = 128 * (i : Int) + (first (H i) : Int) := by unfold insHK; rw [if_neg (by omega), hl]
  have eX : insHX n H row = 0 := by unfold insHX; rw [if_neg (by omega), hl]
  have eH : insHH n H row = updH H i (insL (H i) row) := by unfold insHH; rw [if_neg (by omega), hl]
  have hfi : first (H i) < 127 := by
    have h4 := ok'.few i
    rw [eH, updH_same] at h4
    have h5 := (insL_get (H i) row (first (H i)) row).2 (Or.inl ⟨rfl, rfl⟩)
    have := (List.getElem?_eq_some_iff.1 h5).1
    omega
  have hno : ∀ r, (insHK n H row, r) ∉ ent n H := by
    intro r hr
    rw [eK, mem_ent ok.few] at hr
    obtain ⟨p, s, e, _, _, hs2, q⟩ := hr
    have e1 : p = i := by omega
    have e2 : s = first (H i) := by omega
    subst e1
    rw [e2] at q
    by_cases hq : first (H p) < (H p).length
    · rw [first_none _ hq] at q; simp at q
    · rw [List.getElem?_eq_none (by omega)] at q; cases q
  have hn := ok.n
  refine ⟨hno, eX, by omega, by omega, ?_⟩
  refine (List.perm_ext_iff_of_nodup (ent_nodup ok'.few) (List.nodup_cons.2 ⟨hno row, ent_nodup ok.few⟩)).2 ?_
  rintro ⟨k, r⟩
  rw [List.mem_cons, mem_ent ok'.few, mem_ent ok.few, eH, eK]
  constructor
  · rintro ⟨p, s, e, a, b, c, d⟩
    by_cases q : p = i
    · subst q
      rw [updH_same, insL_get] at d
      rcases d with ⟨rfl, rfl⟩ | ⟨_, d⟩
      · exact Or.inl (by rw [e])
      · exact Or.inr ⟨p, s, e, a, b, c, d⟩
    · rw [updH_ne H _ q] at d
      exact Or.inr ⟨p, s, e, a, b, c, d⟩
  · rintro (e | ⟨p, s, e, a, b, c, d⟩)
    · injection e with e1 e2
      exact ⟨i, first (H i), e1, h1, h2, hfi, by rw [updH_same, insL_get]; exact Or.inl ⟨rfl, e2⟩⟩
    · refine ⟨p, s, e, a, b, c, ?_⟩
      by_cases q : p = i
      · subst q
        rw [updH_same, insL_get]
        refine Or.inr ⟨fun z => ?_, d⟩
        subst z
        exact hno r (by rw [eK]; exact (mem_ent ok.few _ _).2 ⟨p, _, rfl, a, b, c, d⟩)
      · rw [updH_ne H _ q]; exact d

/-- What there is can be read, and taken away. -/
theorem ent_get (ok : Vok n V H) {k : Int} {r : ByteArray} (h : (k, r) ∈ ent n H) : getHS n H k = r ∧ delHX n H k = 0 ∧ i64B k := by
  obtain ⟨p, s, e, h1, h2, h3, h4⟩ := (mem_ent ok.few k r).1 h
  obtain ⟨e1, e2, e3⟩ := pg_near (H := H) e (by omega) h1 h2
  have hn := ok.n
  refine ⟨?_, ?_, ⟨by omega, by omega⟩⟩
  · unfold getHS rowAt
    rw [e1, e2, if_pos (by omega), Int.toNat_natCast, h4]
    rfl
  · unfold delHX delE rowAt
    rw [e1, e2, if_pos (by omega), Int.toNat_natCast, h4]
    rfl
theorem ent_del {k : Int} (ok : Vok n V H) (ok' : Vok n V' (delHH n H k)) {r : ByteArray} (h : (k, r) ∈ ent n H) : (ent n H).Perm ((k, r) :: ent n (delHH n H k)) := by
  obtain ⟨p, s, e, h1, h2, h3, h4⟩ := (mem_ent ok.few k r).1 h
  obtain ⟨e1, e2, e3⟩ := pg_near (H := H) e (by omega) h1 h2
  have eH : delHH n H k = updH H p (delL (H p) (s : Int)) := by
    unfold delHH
    rw [if_pos (ent_get ok h).2.1, e1, e2, e3]
  have hm : ∀ k' r', (k', r') ∈ ent n (delHH n H k) ↔ k' ≠ k ∧ (k', r') ∈ ent n H := by
    intro k' r'
    rw [mem_ent ok'.few, mem_ent ok.few, eH]
    constructor
    · rintro ⟨p', s', e', a, b, c, d⟩
      by_cases q : p' = p
      · subst q
        rw [updH_same, delL_get] at d
        exact ⟨by omega, p', s', e', a, b, c, d.2⟩
      · rw [updH_ne H _ q] at d
        exact ⟨by omega, p', s', e', a, b, c, d⟩
    · rintro ⟨hk, p', s', e', a, b, c, d⟩
      refine ⟨p', s', e', a, b, c, ?_⟩
      by_cases q : p' = p
      · subst q
        rw [updH_same, delL_get]
        exact ⟨fun z => hk (by omega), d⟩
      · rw [updH_ne H _ q]; exact d
  refine (List.perm_ext_iff_of_nodup (ent_nodup ok.few) (List.nodup_cons.2 ⟨fun q => ((hm _ _).1 q).1 rfl, ent_nodup ok'.few⟩)).2 ?_
  rintro ⟨k', r'⟩
  rw [List.mem_cons, hm]
  constructor
  · intro q
    by_cases z : k' = k
    · subst z
      have := (ent_get ok q).1
      rw [(ent_get ok h).1] at this
      exact Or.inl (by rw [this])
    · exact Or.inr ⟨z, q⟩
  · rintro (q | ⟨_, q⟩)
    · rw [q]; exact h
    · exact q

theorem flat_many {α β : Type} (f : α → List β) (l : List α) (h : ∀ x ∈ l, f x ≠ []) : l.length ≤ (l.flatMap f).length := by
  induction l with
  | nil => simp
  | cons x l ih =>
    rw [List.flatMap_cons, List.length_append, List.length_cons]
    have h1 := ih (fun y hy => h y (List.mem_cons_of_mem _ hy))
    have h2 := List.length_pos_iff.2 (h x (List.mem_cons_self ..))
    omega
theorem entL_ne (ok : Vok n V H) (i : Nat) (h : H i ≠ []) : entL (H i) 0 ≠ [] := by
  intro e
  have h1 := entL_fst (H i) 0
  rw [e] at h1
  have h2 := (slotsF_nil (ok.fine i).trim 0).1 (by rw [← h1]; rfl)
  exact h h2
/-- No page takes it: each has a row. -/
theorem ent_full (ok : Vok n V H) (hs : row.size ≤ 400) (hl : lowP n H row = none) : n - 1 ≤ (ent n H).length := by
  have h := flat_many (fun i => (entL (H i) 0).map (fun x => (128 * (i : Int) + x.1, x.2))) (pgsN n) (fun i hi => by
    unfold lowP at hl
    rw [List.find?_eq_none] at hl
    have h1 := hl i hi
    intro e
    refine entL_ne ok i (fun q => ?_) (List.map_eq_nil_iff.1 e)
    rw [q, insE_nil row hs] at h1
    exact h1 rfl)
  have e : (pgsN n).length = n - 1 := by unfold pgsN; rw [List.length_range']
  rw [e] at h
  exact h
theorem ent_pages (ok : Vok n V H) (h : ent n H = []) : pagesN n H = [] := by
  unfold pagesN
  rw [List.map_eq_nil_iff, List.filter_eq_nil_iff]
  intro i hi q
  have h1 : (entL (H i) 0).map (fun x => (128 * (i : Int) + x.1, x.2)) = [] := by
    unfold ent at h
    rw [List.flatMap_eq_nil_iff] at h
    exact h i hi
  refine entL_ne ok i (fun e => ?_) (List.map_eq_nil_iff.1 h1)
  rw [e] at q
  cases q
theorem ent_new (n : Nat) : ent n (fun _ => []) = [] := by
  unfold ent
  rw [List.flatMap_eq_nil_iff]
  intro i _
  rfl
end

end Go.Proofs.YtkjioabhdglkpaaGreat
end

section
namespace Go.Proofs.YtkjioabhdglkpaaGreat
open Go.RowKit

section
variable {α : Type} {sz : Nat} {g : α → List Value}
theorem flat_len' (hg : ∀ x, (g x).length = sz) (l : List α) : (l.flatMap g).length = l.length * sz := by
  induction l with
  | nil => simp
  | cons x l ih => rw [List.flatMap_cons, List.length_append, hg, ih, List.length_cons, Nat.succ_mul]; omega
theorem flat_get (hg : ∀ x, (g x).length = sz) (l : List α) : ∀ (i : Nat) (x : α), l[i]? = some x → ∀ j u, (g x)[j]? = some u → (l.flatMap g)[i * sz + j]? = some u := by
  induction l with
  | nil => intro i x h; simp at h
  | cons y l ih =>
    intro i x h j u hu
    rw [List.flatMap_cons]
    cases i with
    | zero =>
      simp at h
      subst h
      have : j < (g y).length := (List.getElem?_eq_some_iff.1 hu).1
      rw [Nat.zero_mul, Nat.zero_add, List.getElem?_append_left this]
      exact hu
    | succ i =>
      simp at h
      have hy := hg y
      rw [List.getElem?_append_right (by rw [hy, Nat.succ_mul]; omega), hy, show (i + 1) * sz + j - sz = i * sz + j by rw [Nat.succ_mul]; omega]
      exact ih i x h j u hu
theorem flat_take' (hg : ∀ x, (g x).length = sz) (l : List α) (k : Nat) (hk : k ≤ l.length) : (l.flatMap g).take (k * sz) = (l.take k).flatMap g := by
  have e : l = l.take k ++ l.drop k := (List.take_append_drop k l).symm
  conv => lhs; rw [e, List.flatMap_append]
  have hl : ((l.take k).flatMap g).length = k * sz := by rw [flat_len' hg, List.length_take, Nat.min_eq_left hk]
  rw [← hl, List.take_left]
end

/-- A row of elements in memory, in a block from B on. -/
structure GRow {α : Type} (T : TypeId) (sz : Nat) (g : α → List Value) (w : World) (B : Nat) (v : Value) (l : List α) : Prop where
  own : w.ownsRow B T sz v l.length (l.flatMap g)

section
variable {α : Type} {T : TypeId} {sz : Nat} {g : α → List Value} {w w' : World} {B : Nat} {v : Value} {l : List α}
theorem GRow.blk (h : GRow T sz g w B v l) {k : Nat} (hk : v.ownBlock = some k) : B ≤ k ∧ k < w.heap.size := h.own.lt k hk
theorem GRow.kept (h : GRow T sz g w B v l) (h1 : ∀ k, v.ownBlock = some k → w'.heap[k]? = w.heap[k]?) : GRow T sz g w' B v l := by
  refine ⟨⟨h.own.1, ?_⟩⟩
  rcases h.own.2 with e | ⟨b, cap, cur, rfl, a, q, c⟩
  · exact Or.inl e
  · exact Or.inr ⟨b, cap, cur, rfl, a, (h1 b rfl).trans q, c⟩
theorem GRow.below' (h : GRow T sz g w B v l) (hb : Below w.heap.size w w') : GRow T sz g w' B v l := h.kept (fun k e => hb.block k (h.blk e).2)
theorem GRow.mono {B' : Nat} (h : GRow T sz g w B v l) (hB : B' ≤ B) : GRow T sz g w B' v l := ⟨own_mono h.own hB⟩
theorem GRow.len (h : GRow T sz g w B v l) : ∃ a c, v = .slice a l.length c ∧ l.length ≤ c ∧ c ≤ maxLen := by
  rcases h.own.2 with ⟨rfl, e⟩ | ⟨b, cap, cur, rfl, _, _, c, d, _⟩
  · rw [e]; exact ⟨_, _, rfl, Nat.le_refl _, Nat.zero_le _⟩
  · exact ⟨_, _, rfl, c, d⟩
theorem GRow.cell (h : GRow T sz g w B v l) (hg : ∀ x, (g x).length = sz) {i : Nat} {x : α} (hs : l[i]? = some x) : ∃ b c, v = .slice (some ⟨b, 0, none⟩) l.length c ∧ l.length ≤ c ∧ B ≤ b ∧ b < w.heap.size ∧ ∀ j u, (g x)[j]? = some u → w.cell? ⟨b, i * sz + j, none⟩ = some u := by
  have hlt : i < l.length := (List.getElem?_eq_some_iff.1 hs).1
  have h0 := h.own
  rcases h.own.2 with ⟨_, e⟩ | ⟨b, cap, cur, rfl, hb, hq, c, d, _⟩
  · omega
  · refine ⟨b, cap, rfl, c, hb, (Array.getElem?_eq_some_iff.1 hq).1, fun j u hu => ?_⟩
    have hj : j < sz := by have := (List.getElem?_eq_some_iff.1 hu).1; rw [hg] at this; exact this
    have hm : (i + 1) * sz ≤ l.length * sz := Nat.mul_le_mul_right _ hlt
    rw [h0.cellAt _ (by rw [Nat.succ_mul] at hm; omega)]
    exact flat_get hg l i x hs j u hu
theorem grow_nil (T : TypeId) (sz : Nat) (g : α → List Value) (w : World) (B : Nat) : GRow T sz g w B (.slice none 0 0) ([] : List α) := ⟨World.ownsRow_nil _ _ _ _⟩

/-- append, in a list of operations. -/
theorem wpList_append_row {tS : TypeId} {bytes : Nat} {z : Value} (hg : ∀ x, (g x).length = sz) (h1 : ∀ x, ∀ u ∈ g x, u.oneCell' = true) (hu : Tryz.prog.underlying tS = some (.slice T)) (hI : (Tryz.prog.info? T).map (fun i => (i.zero, i.size, i.bytes)) = some (some z, sz, bytes)) (hzs : z.cells.size = sz) (hsz : 0 < sz) (hby : bytes ≤ 1000)
    {ops : Array Oper} {rest : List Oper} {o : Oper} {ac : Act} {Q : Exit → Act → World → Prop} (w : World) (hgd : o.guard = none) (s x : Operand)
    (ho : o.op = .call { callee := .builtin .append, args := #[s, x], argTypes := #[tS, tS] })
    (B : Nat) (v : Value) (l m : List α) (hs : ac.eval s = v) (hrow : GRow T sz g w B v l) (a : Addr) (c : Nat) (hx : ac.eval x = .slice (some a) m.length c) (hm : ∀ j u, (m.flatMap g)[j]? = some u → w.cell? (a.add j) = some u) (hlen : l.length + m.length ≤ 100000) (hB : B ≤ w.heap.size)
    (h : ∀ v' w', GRow T sz g w' B v' (l ++ m) → Fr (fun k => v.ownBlock = some k) w w' → (∀ k, v'.ownBlock = some k → v.ownBlock = some k ∨ w.heap.size ≤ k) → wpList Tryz.prog ops Q rest (ac.put o.dst v') w') : wpList Tryz.prog ops Q (o :: rest) ac w := by
  obtain ⟨i0, hi, hz0, hz1, hz2⟩ := info_parts hI
  obtain ⟨v', w', hr, h2, h3, h4⟩ := run_append_own2 (P := Tryz.prog) w B tS o.type T i0 _ sz bytes hu hi hz0 hz1 hz2 hzs hsz v l.length (l.flatMap g) hrow.own a m.length c (m.flatMap g) (flat_len' hg m) hm (by intro u hu; obtain ⟨y, _, hy⟩ := List.mem_flatMap.1 hu; exact h1 y u hy) (by unfold maxLen; omega) (Nat.le_trans (Nat.mul_le_mul hlen hby) (by omega)) hB
  refine wpList_plain hgd fun K hK => ?_
  unfold Oper.wp execOp
  simp only [ho, resolve, invoke, builtin, Sem.run_bind, Sem.run_pure, Result.andThen_ok, List.map_toArray, List.map_cons, List.map_nil, hs, hx, hr]
  exact hK _ _ (h v' w' ⟨by rw [List.length_append, List.flatMap_append]; exact h2⟩ (Fr.of_grown h3) h4)
end

end Go.Proofs.YtkjioabhdglkpaaGreat
end

section
namespace Go.Proofs.YtkjioabhdglkpaaGreat
open Go.RowKit

/-- A piece of a row. -/
structure Pc where
  id : Nat
  no : Nat
  size : Nat
  sum : Nat
  part : ByteArray
def Pc.cells (p : Pc) : List Value := [.int .i64 (p.id : Int), .int .i64 (p.no : Int), .int .i64 (p.size : Int), .int .u32 (p.sum : Int), .string p.part]
structure Pc.Ok (p : Pc) : Prop where
  id : 1 ≤ p.id ∧ p.id ≤ 4611686018427387903
  no : p.no ≤ 11
  size : p.size ≤ 4000
  sum : p.sum < 4294967296
  part : p.part.size ≤ 360
def Pc.head (p : Pc) : List UInt8 := enc p.id ++ enc p.no ++ enc p.size ++ enc p.sum
/-- The row of a heap that it is. -/
def pb (p : Pc) : ByteArray := ba (p.head ++ p.part.data.toList)

/-- The sum of bytes. -/
def fnvI (n : Int) : List UInt8 → Int
  | [] => n
  | b :: l => fnvI (bits .xor .u32 n (b.toNat : Int) * 16777619 % 4294967296) l
def sumT (id : Nat) (text : ByteArray) : ByteArray := ba (enc id) ++ text
def sumN (id : Nat) (text : ByteArray) : Nat := (fnvI 2166136261 (sumT id text).data.toList).toNat
def cntN (size : Nat) : Nat := size / 360 + 1
def partN (text : ByteArray) (a : Nat) : ByteArray := text.extract (a * 360) (min (a * 360 + 360) text.size)
def pcAt (id : Nat) (text : ByteArray) (a : Nat) : Pc := ⟨id, a, text.size, sumN id text, partN text a⟩
def pcsN (id : Nat) (text : ByteArray) : List Pc := (List.range (cntN text.size)).map (pcAt id text)

theorem fnv_lt (l : List UInt8) : ∀ n, 0 ≤ n ∧ n < 4294967296 → 0 ≤ fnvI n l ∧ fnvI n l < 4294967296 := by
  induction l with
  | nil => intro n h; exact h
  | cons b l ih => intro n _; exact ih _ (by omega)
theorem sum_at (id : Nat) (text : ByteArray) : (sumN id text : Int) = fnvI 2166136261 (sumT id text).data.toList ∧ sumN id text < 4294967296 := by
  have := fnv_lt (sumT id text).data.toList 2166136261 (by decide)
  unfold sumN
  omega
theorem fnv_step (l : List UInt8) (k : Nat) (b : UInt8) : ∀ n, l[k]? = some b → fnvI n (l.take (k + 1)) = bits .xor .u32 (fnvI n (l.take k)) (b.toNat : Int) * 16777619 % 4294967296 := by
  induction l generalizing k with
  | nil => intro n h; simp at h
  | cons c l ih =>
    intro n h
    cases k with
    | zero => simp at h; subst h; rfl
    | succ k => simp at h; exact ih k _ h

theorem encF_lt (f n k : Nat) (h : n < 128 ^ (k + 1)) : (encF f n).length ≤ k + 1 := by
  induction f generalizing n k with
  | zero => simp [encF]
  | succ f ih =>
    by_cases q : n < 128
    · rw [encF_small _ _ q]; simp
    · rw [encF_big _ _ (by omega)]
      cases k with
      | zero => simp at h; omega
      | succ k =>
        have h2 : n / 128 < 128 ^ (k + 1) := by
          rw [Nat.div_lt_iff_lt_mul (by decide)]
          rw [Nat.pow_succ] at h
          exact h
        have := ih (n / 128) k h2
        simp
        omega
theorem pc_head {p : Pc} (h : p.Ok) : p.head.length ≤ 17 := by
  have h1 := encF_lt 9 p.id 8 (by have := h.id.2; omega)
  have h2 := encF_lt 9 p.no 0 (by have := h.no; omega)
  have h3 := encF_lt 9 p.size 1 (by have := h.size; omega)
  have h4 := encF_lt 9 p.sum 4 (by have := h.sum; omega)
  unfold Pc.head enc
  simp only [List.length_append]
  omega
theorem pb_size {p : Pc} (h : p.Ok) : (pb p).size ≤ 400 := by
  have := pc_head h
  have := h.part
  unfold pb
  rw [ba_size, List.length_append]
  have : p.part.data.toList.length = p.part.size := by simp
  omega

theorem part_list (text : ByteArray) (a : Nat) : (partN text a).data.toList = (text.data.toList.drop (a * 360)).take 360 := by
  unfold partN
  rw [ext_list]
  have hl : text.data.toList.length = text.size := by simp
  by_cases h : a * 360 + 360 ≤ text.size
  · rw [Nat.min_eq_left h]
    congr 1
    omega
  · rw [Nat.min_eq_right (by omega), List.take_of_length_le (by rw [List.length_drop, hl]; omega), List.take_of_length_le (by rw [List.length_drop, hl]; omega)]
theorem part_size (text : ByteArray) (a : Nat) : (partN text a).size ≤ 360 := by
  have h : (partN text a).data.toList.length = (partN text a).size := by simp
  rw [← h, part_list, List.length_take]
  omega
theorem pc_ok {id : Nat} {text : ByteArray} (h1 : 1 ≤ id ∧ id ≤ 4611686018427387903) (h2 : text.size ≤ 4000) {a : Nat} (ha : a < cntN text.size) : (pcAt id text a).Ok :=
  ⟨h1, by unfold cntN at ha; show a ≤ 11; omega, h2, (sum_at id text).2, part_size text a⟩
theorem pcs_len (id : Nat) (text : ByteArray) : (pcsN id text).length = cntN text.size := by unfold pcsN; simp
theorem pcs_get {id : Nat} {text : ByteArray} {a : Nat} (ha : a < cntN text.size) : (pcsN id text)[a]? = some (pcAt id text a) := by
  unfold pcsN
  rw [List.getElem?_map, List.getElem?_range ha]
  rfl
theorem pcs_mem {id : Nat} {text : ByteArray} {p : Pc} (h : p ∈ pcsN id text) : ∃ a, a < cntN text.size ∧ p = pcAt id text a := by
  unfold pcsN at h
  obtain ⟨a, ha, rfl⟩ := List.mem_map.1 h
  exact ⟨a, List.mem_range.1 ha, rfl⟩
theorem parts_take (L : List UInt8) (k : Nat) : (List.range k).flatMap (fun a => (L.drop (a * 360)).take 360) = L.take (k * 360) := by
  induction k with
  | zero => simp
  | succ k ih =>
    rw [List.range_succ, List.flatMap_append, ih, Nat.succ_mul, List.take_add]
    simp
/-- All parts are the text. -/
theorem parts_cat (id : Nat) (text : ByteArray) : (pcsN id text).flatMap (fun p => p.part.data.toList) = text.data.toList := by
  unfold pcsN
  rw [List.flatMap_map]
  show (List.range _).flatMap (fun a => (partN text a).data.toList) = _
  have hl : text.data.toList.length = text.size := by simp
  rw [show (fun a => (partN text a).data.toList) = (fun a => (text.data.toList.drop (a * 360)).take 360) from funext (part_list text), parts_take, List.take_of_length_le]
  unfold cntN
  omega

theorem getAt_enc {L : List UInt8} {q : Nat} {n : Nat} {rest : List UInt8} (hn : n < 18446744073709551616) (ha : q ≤ L.length) (h : L.drop q = enc n ++ rest) : getAt L (q : Int) = (n, (enc n).length, true) := getAt_drop L q n rest hn ha h

theorem pc_gets {p : Pc} (h : p.Ok) (a b c d : Nat) (ea : a = (enc p.id).length) (eb : b = a + (enc p.no).length) (ec : c = b + (enc p.size).length) (ed : d = c + (enc p.sum).length) :
    getAt (pb p).data.toList (0 : Nat) = (p.id, (enc p.id).length, true) ∧ getAt (pb p).data.toList (a : Int) = (p.no, (enc p.no).length, true) ∧ getAt (pb p).data.toList (b : Int) = (p.size, (enc p.size).length, true) ∧ getAt (pb p).data.toList (c : Int) = (p.sum, (enc p.sum).length, true) ∧ (pb p).extract d (pb p).size = p.part ∧ d ≤ (pb p).size := by
  have hL : (pb p).data.toList = enc p.id ++ (enc p.no ++ (enc p.size ++ (enc p.sum ++ p.part.data.toList))) := by
    unfold pb ba Pc.head
    simp
  have hlen : (pb p).data.toList.length = (pb p).size := by simp
  have hs : (pb p).size = (enc p.id).length + (enc p.no).length + (enc p.size).length + (enc p.sum).length + p.part.data.toList.length := by
    rw [← hlen, hL]
    simp only [List.length_append]
    omega
  have da : (pb p).data.toList.drop a = enc p.no ++ (enc p.size ++ (enc p.sum ++ p.part.data.toList)) := by rw [hL, ea, List.drop_left]
  have db : (pb p).data.toList.drop b = enc p.size ++ (enc p.sum ++ p.part.data.toList) := by rw [eb, ← List.drop_drop, da, List.drop_left]
  have dc : (pb p).data.toList.drop c = enc p.sum ++ p.part.data.toList := by rw [ec, ← List.drop_drop, db, List.drop_left]
  have dd : (pb p).data.toList.drop d = p.part.data.toList := by rw [ed, ← List.drop_drop, dc, List.drop_left]
  have h1 := h.id
  have h2 := h.no
  have h3 := h.size
  have h4 := h.sum
  refine ⟨getAt_enc (by omega) (by omega) (by rw [List.drop_zero]; exact hL), getAt_enc (by omega) (by omega) da, getAt_enc (by omega) (by omega) db, getAt_enc (by omega) (by omega) dc, ?_, by omega⟩
  apply ba_ext
  rw [extract_drop]
  exact dd

end Go.Proofs.YtkjioabhdglkpaaGreat
end

section
namespace Go.Proofs.YtkjioabhdglkpaaGreat
open Go.RowKit Go.Maps
open Go.WideElems (Fit rg)

def tokR (v : Value) : Option (DataW Value × List MemPlace) := some (.held v, [])
theorem lawI : Keyed Tryz.prog 2 := int_keyed Tryz.underlying2
theorem wf64 {x : Int} (h : i64B x) : (Lit.int .i64 x).wf = true := WalkArith.wf_i64 h
theorem keyI {x : Int} (h : i64B x) : keyOf Tryz.prog 2 (.int .i64 x) = some (.int .i64 x) := keyOf_int_mk Tryz.underlying2 (wf64 h)
theorem lit_ne {x y : Int} (h : x ≠ y) : (Lit.int .i64 x) ≠ .int .i64 y := fun e => h (by injection e)

/-- The map in a block has just the keys ks, and at each what f says. -/
structure IMap (w : World) (b : Nat) (ks : List Int) (f : Int → Value) : Prop where
  ex : ∃ D, w.ownsMap Tryz.prog 2 tokR b ks.length D ∧ (∀ x, Maps.has D (.int .i64 x) = decide (x ∈ ks)) ∧ ∀ x ∈ ks, ∀ z, D.atKey (.int .i64 x) z = .held (f x)
  rng : ∀ x ∈ ks, i64B x
  nd : ks.Nodup

theorem len_same {α : Type} [DecidableEq α] (a b : List α) (ha : a.Nodup) (hb : b.Nodup) (h : ∀ x, x ∈ a ↔ x ∈ b) : a.length = b.length := ((List.perm_ext_iff_of_nodup ha hb).2 h).length_eq

theorem own_size {w : World} {b n : Nat} {D : DataW Value} (h : w.ownsMap Tryz.prog 2 tokR b n D) : w.ownsMap Tryz.prog 2 tokR b (Maps.size D) D := by
  obtain ⟨es, clock, hb, F, hs, rfl⟩ := h
  exact ⟨es, clock, hb, F, by simp [Maps.size, length_sorted], rfl⟩
theorem size_keys {w : World} {b n : Nat} {D : DataW Value} (h : w.ownsMap Tryz.prog 2 tokR b n D) {ks : List Int} (hh : ∀ x, Maps.has D (.int .i64 x) = decide (x ∈ ks)) (hn : ks.Nodup) : Maps.size D = ks.length := by
  obtain ⟨es, clock, hb, F, hs, rfl⟩ := h
  have hk := fit_keys F
  have hp := fit_apart lawI F
  have hall : ∀ p ∈ es.toList.map (rg Tryz.prog 2 tokR), ∃ x, p.1 = .int .i64 x := fun p hp => by
    obtain ⟨v, hv⟩ := hk p hp
    obtain ⟨x, _, e, _⟩ := keyOf_int_inv Tryz.underlying2 hv
    exact ⟨x, e⟩
  have e1 : Maps.size (DataW.map ((es.toList.map (rg Tryz.prog 2 tokR)).foldr DataW.insert [])) = (es.toList.map (rg Tryz.prog 2 tokR)).length := by
    simp [Maps.size, length_sorted]
  have hh' : ∀ x, (es.toList.map (rg Tryz.prog 2 tokR)).any (fun p => p.1.sameKey (.int .i64 x)) = decide (x ∈ ks) := fun x => by
    rw [← hh x, has_eq]
    rw [Bool.eq_iff_iff, List.any_eq_true, List.any_eq_true]
    constructor
    · rintro ⟨p, hp, q⟩; exact ⟨p, mem_sorted.2 hp, q⟩
    · rintro ⟨p, hp, q⟩; exact ⟨p, mem_sorted.1 hp, q⟩
  rw [e1]
  generalize es.toList.map (rg Tryz.prog 2 tokR) = l at *
  have num : ∃ g : Lit → Int, ∀ x, g (.int .i64 x) = x := ⟨fun l => match l with | .int _ x => x | _ => 0, fun _ => rfl⟩
  obtain ⟨g, hg⟩ := num
  have e2 : (l.map (fun p => g p.1)).length = l.length := by simp
  rw [← e2]
  refine len_same _ _ ?_ hn (fun x => ?_)
  · unfold List.Nodup
    rw [List.pairwise_map]
    refine List.Pairwise.imp_of_mem ?_ hp
    intro p q hp hq hne e
    obtain ⟨x, ex⟩ := hall p hp
    obtain ⟨y, ey⟩ := hall q hq
    rw [ex, ey, hg, hg] at e
    exact hne (by rw [ex, ey, e])
  · have h1 := hh' x
    rw [Bool.eq_iff_iff, List.any_eq_true, decide_eq_true_eq] at h1
    rw [← h1, List.mem_map]
    constructor
    · rintro ⟨p, hp, e⟩
      obtain ⟨y, ey⟩ := hall p hp
      rw [ey, hg] at e
      exact ⟨p, hp, by rw [ey, e]; simp [Lit.sameKey]⟩
    · rintro ⟨p, hp, e⟩
      exact ⟨p, hp, by rw [WideAt.sameKey_eq e, hg]⟩

section
variable {w w' : World} {b : Nat} {ks : List Int} {f : Int → Value}

theorem IMap.made (w : World) (f : Int → Value) : IMap (w.alloc (.map #[] 0)) w.heap.size [] f :=
  ⟨⟨_, World.ownsMap_made w _ _ _, fun x => by simp [Maps.has], fun x h => by cases h⟩, fun x h => (by cases h), List.nodup_nil⟩
theorem IMap.lt (h : IMap w b ks f) : b < w.heap.size := by
  obtain ⟨D, h1, _⟩ := h.ex
  exact h1.lt
theorem own_at {n : Nat} {D : DataW Value} (h : w.ownsMap Tryz.prog 2 tokR b n D) (e : w'.heap[b]? = w.heap[b]?) : w'.ownsMap Tryz.prog 2 tokR b n D := by
  obtain ⟨es, clock, hb, r⟩ := h
  exact ⟨es, clock, e.trans hb, r⟩
theorem IMap.kept (h : IMap w b ks f) (e : w'.heap[b]? = w.heap[b]?) : IMap w' b ks f := by
  obtain ⟨D, h1, h2, h3⟩ := h.ex
  exact ⟨⟨D, own_at h1 e, h2, h3⟩, h.rng, h.nd⟩
theorem IMap.below (h : IMap w b ks f) (hb : Below w.heap.size w w') : IMap w' b ks f := h.kept (hb.block _ h.lt)
theorem IMap.congr {ks' : List Int} {f' : Int → Value} (h : IMap w b ks f) (hk : ∀ x, x ∈ ks' ↔ x ∈ ks) (hn : ks'.Nodup) (hf : ∀ x ∈ ks, f' x = f x) : IMap w b ks' f' := by
  obtain ⟨D, h1, h2, h3⟩ := h.ex
  have hl : ks'.length = ks.length := len_same _ _ hn h.nd hk
  refine ⟨⟨D, by rw [hl]; exact h1, fun x => ?_, fun x hx z => ?_⟩, fun x hx => h.rng x ((hk x).1 hx), hn⟩
  · rw [h2]; simp only [hk]
  · rw [hf x ((hk x).1 hx)]; exact h3 x ((hk x).1 hx) z

/-- m[k], with ok, or without. -/
theorem IMap.look_yes {t e : TypeId} {z : Value} (h : IMap w b ks f) (ht : Tryz.prog.underlying t = some (.map 2 e)) (hz : (zeroValue e).run Tryz.prog w = .ok z w) {x : Int} (hx : x ∈ ks) (c : Bool) : (Instr.lookup t (.map (some b)) (.int .i64 x) c).run Tryz.prog w = .ok (if c then .tuple #[f x, .bool true] else f x) w := by
  obtain ⟨D, h1, h2, h3⟩ := h.ex
  obtain ⟨es, clock, hb, F, _, rfl⟩ := h1
  rcases Maps.fit_look c lawI ht hz hb F (keyI (h.rng x hx)) with ⟨_, _, hat⟩ | ⟨e0, y, _, _, hrun, hRv, hat, _⟩
  · have := Maps.has_false_of_atKey hat
    rw [h2, decide_eq_false_iff_not] at this
    exact absurd hx this
  · have h4 := hat .nil
    rw [h3 x hx] at h4
    have h5 : e0.val = f x := by
      have e1 : ((DataW.held e0.val, []) : DataW Value × List MemPlace) = y := Option.some.inj hRv
      rw [← congrArg Prod.fst e1] at h4
      exact (DataW.held.inj h4).symm
    rw [hrun, h5]
theorem IMap.look_no {t e : TypeId} {z : Value} (h : IMap w b ks f) (ht : Tryz.prog.underlying t = some (.map 2 e)) (hz : (zeroValue e).run Tryz.prog w = .ok z w) {x : Int} (hr : i64B x) (hx : x ∉ ks) (c : Bool) : (Instr.lookup t (.map (some b)) (.int .i64 x) c).run Tryz.prog w = .ok (if c then .tuple #[z, .bool false] else z) w := by
  obtain ⟨D, h1, h2, h3⟩ := h.ex
  obtain ⟨es, clock, hb, F, _, rfl⟩ := h1
  rcases Maps.fit_look c lawI ht hz hb F (keyI hr) with ⟨hrun, _, _⟩ | ⟨e0, y, _, _, _, _, hat, _⟩
  · exact hrun
  · have := Maps.has_true_of_atKey hat
    rw [h2, decide_eq_true_eq] at this
    exact absurd this hx

def updI (f : Int → Value) (k : Int) (v : Value) (x : Int) : Value := if x = k then v else f x

theorem turned_fr (h : w.mapTurned w' b) : Fr (fun k => k = b) w w' := by
  have g := h.grown
  exact ⟨g.os, g.tape, g.output, g.size, fun k hk hF => g.block k hk (fun e => hF (by injection e))⟩

/-- m[k] = v. -/
theorem IMap.store {t e : TypeId} (h : IMap w b ks f) (ht : Tryz.prog.underlying t = some (.map 2 e)) (hl : ks.length < 1000000) {x : Int} (hr : i64B x) (v : Value) :
    ∃ w', (Instr.mapUpdate t (.map (some b)) (.int .i64 x) v).run Tryz.prog w = .ok () w' ∧ (x ∈ ks → IMap w' b ks (updI f x v)) ∧ (x ∉ ks → IMap w' b (x :: ks) (updI f x v)) ∧ Fr (fun k => k = b) w w' := by
  obtain ⟨D, h1, h2, h3⟩ := h.ex
  obtain ⟨w', hrun, r1, r2⟩ := h1.store lawI ht (by unfold maxLen; omega) (keyI hr) (show tokR v = some (.held v, []) from rfl)
  have hk : WideAt.IsKeyLit (.int .i64 x) := lawI.key (keyI hr)
  have fin : ∀ ks' : List Int, (∀ y, y ∈ ks' ↔ y = x ∨ y ∈ ks) → ks'.Nodup → IMap w' b ks' (updI f x v) := fun ks' hks' hn => by
    have hh : ∀ y, Maps.has (D.put (.int .i64 x) (.held v)) (.int .i64 y) = decide (y ∈ ks') := fun y => by
      by_cases e : y = x
      · subst e
        rw [has_put_same h1.isMap hk]
        simp [hks']
      · rw [has_put_other (lit_ne e), h2]
        simp [hks', e]
    refine ⟨⟨_, ?_, hh, fun y hy z => ?_⟩, fun y hy => ?_, hn⟩
    · rw [← size_keys r1 hh hn]
      exact own_size r1
    · by_cases e : y = x
      · subst e
        rw [atKey_put_same h1.isMap hk]
        simp [updI]
      · rw [atKey_put_other (lit_ne e), h3 y (((hks' y).1 hy).resolve_left e)]
        simp [updI, e]
    · rcases (hks' y).1 hy with rfl | q
      · exact hr
      · exact h.rng y q
  exact ⟨w', hrun, fun hx => fin ks (fun y => ⟨Or.inr, fun q => q.elim (fun e => e ▸ hx) id⟩) h.nd, fun hx => fin (x :: ks) (fun y => List.mem_cons) (List.nodup_cons.2 ⟨hx, h.nd⟩), turned_fr r2⟩
theorem wpList_store {ops : Array Oper} {rest : List Oper} {o : Oper} {a : Act} {Q : Exit → Act → World → Prop} (w : World) (hg : o.guard = none) (m x v : Operand) (t e : TypeId) (hop : o.op = Op.mapUpdate t m x v) (ht : Tryz.prog.underlying t = some (.map 2 e))
    (b : Nat) (ks : List Int) (f : Int → Value) (h : IMap w b ks f) (hl : ks.length < 1000000) (k : Int) (u : Value) (hm : a.eval m = .map (some b)) (hx : a.eval x = .int .i64 k) (hr : i64B k) (hv : a.eval v = u)
    (hK : ∀ w', (k ∈ ks → IMap w' b ks (updI f k u)) → (k ∉ ks → IMap w' b (k :: ks) (updI f k u)) → Fr (fun j => j = b) w w' → wpList Tryz.prog ops Q rest (a.put o.dst undef) w') : wpList Tryz.prog ops Q (o :: rest) a w := by
  refine wpList_plain hg fun K' hK' => ?_
  obtain ⟨w', hrun, r1, r2, r3⟩ := h.store ht hl hr u
  unfold Oper.wp
  simp [execOp, hop, hm, hx, hv, hrun, Result.andThen]
  exact hK' _ _ (hK w' r1 r2 r3)

/-- delete(m, k). -/
theorem wpList_drop {ops : Array Oper} {rest : List Oper} {o : Oper} {a : Act} {Q : Exit → Act → World → Prop} (w : World) (hg : o.guard = none) (m x : Operand) (t e : TypeId) (hop : o.op = Op.call { callee := Callee.builtin Builtin.delete, args := #[m, x], argTypes := #[t, 2] }) (ht : Tryz.prog.underlying t = some (.map 2 e))
    (b : Nat) (ks : List Int) (f : Int → Value) (h : IMap w b ks f) (k : Int) (hm : a.eval m = .map (some b)) (hx : a.eval x = .int .i64 k) (hr : i64B k)
    (hK : ∀ w', IMap w' b (ks.erase k) f → Fr (fun j => j = b) w w' → wpList Tryz.prog ops Q rest (a.put o.dst (.tuple #[])) w') : wpList Tryz.prog ops Q (o :: rest) a w := by
  obtain ⟨D, h1, h2, h3⟩ := h.ex
  refine wpList_delete_own w hg m x t 2 hop e lawI ht tokR b _ D hm h1 _ _ hx (keyI hr) fun w' r1 r2 => hK w' ?_ (turned_fr r2)
  have hh : ∀ y, Maps.has (D.del (.int .i64 k)) (.int .i64 y) = decide (y ∈ ks.erase k) := fun y => by
    by_cases e : y = k
    · subst e
      rw [has_del_same]
      simp [h.nd.mem_erase_iff]
    · rw [has_del_other (lit_ne e), h2]
      simp [h.nd.mem_erase_iff, e]
  have hn := h.nd.erase k
  refine ⟨⟨_, ?_, hh, fun y hy z => ?_⟩, fun y hy => h.rng y (List.mem_of_mem_erase hy), hn⟩
  · rw [← size_keys r1 hh hn]
    exact own_size r1
  · have e : y ≠ k := (h.nd.mem_erase_iff.1 hy).1
    rw [atKey_del_other (lit_ne e)]
    exact h3 y (List.mem_of_mem_erase hy) z
/-- len(m). -/
theorem IMap.size (h : IMap w b ks f) {t e : TypeId} (ht : Tryz.prog.underlying t = some (.map 2 e)) (ty : TypeId) : (Builtin.len_ #[t] ty #[.map (some b)]).run Tryz.prog w = .ok (.int .i64 (ks.length : Int)) w := by
  obtain ⟨D, h1, h2, h3⟩ := h.ex
  rw [h1.len ht ty, size_keys h1 h2 h.nd]
theorem wpList_size {ops : Array Oper} {rest : List Oper} {o : Oper} {a : Act} {Q : Exit → Act → World → Prop} (w : World) (hg : o.guard = none) (m : Operand) (t e : TypeId) (hop : o.op = Op.call { callee := Callee.builtin Builtin.len, args := #[m], argTypes := #[t] }) (ht : Tryz.prog.underlying t = some (.map 2 e))
    (b : Nat) (ks : List Int) (f : Int → Value) (h : IMap w b ks f) (hm : a.eval m = .map (some b)) (hK : wpList Tryz.prog ops Q rest (a.put o.dst (.int .i64 (ks.length : Int))) w) : wpList Tryz.prog ops Q (o :: rest) a w := by
  obtain ⟨D, h1, h2, h3⟩ := h.ex
  refine wpList_len_own w hg m t hop 2 e ht tokR b _ D hm h1 ?_
  rw [size_keys h1 h2 h.nd]
  exact hK
end

end Go.Proofs.YtkjioabhdglkpaaGreat
end

section
namespace Go.Proofs.YtkjioabhdglkpaaGreat
open Go.RowKit

theorem Tryz.info126 : (Tryz.prog.info? 126).map (fun i => (i.zero, i.size, i.bytes)) = some (some (.agg #[.int .i64 0, .int .i64 0, .int .i64 0, .int .u32 0, .string ⟨#[]⟩]), 5, 48) := by kernel_rfl
theorem pc_len (p : Pc) : p.cells.length = 5 := rfl
theorem pc_one (p : Pc) : ∀ u ∈ p.cells, u.oneCell' = true := by
  intro u hu
  simp only [Pc.cells, List.mem_cons, List.not_mem_nil, or_false] at hu
  rcases hu with rfl | rfl | rfl | rfl | rfl <;> rfl
/-- A piece as a value. -/
def Pc.val (p : Pc) : Value := .agg #[.int .i64 (p.id : Int), .int .i64 (p.no : Int), .int .i64 (p.size : Int), .int .u32 (p.sum : Int), .string p.part]
abbrev PRow (w : World) (B : Nat) (v : Value) (l : List Pc) : Prop := GRow 126 5 Pc.cells w B v l

set_option maxHeartbeats 800000 in
theorem count_any' (t : Nat) (ht : t ≤ 1000000) (w : World) : Calls Tryz.prog 65 #[.int .i64 (t : Int)] w fun e w' => e = .returned (.int .i64 (cntN t : Int)) ∧ w' = w := by
  have e1 : (t : Int).tdiv 360 = ((t / 360 : Nat) : Int) := by rw [Int.tdiv_eq_ediv_of_nonneg (by omega)]; omega
  have e2 : (t : Int) / 360 = ((t / 360 : Nat) : Int) := by omega
  have HC : Hid ((cntN t : Int) = ((t / 360 : Nat) : Int) + 1) := by show _ = _; unfold cntN; omega
  have hq : ((t / 360 : Nat) : Int) ≤ 1000000 := by omega
  have hq0 : 0 ≤ ((t / 360 : Nat) : Int) := by omega
  rw [HC.out]
  generalize ((t / 360 : Nat) : Int) = q at *
  go_enter Tryz.func65, Tryz.ntmps65
  go_wp2_with fail
  go_ret
  refine ⟨?_, rfl⟩
  first
    | rfl
    | (congr 2; first | omega | (unfold wrap64; omega))

theorem xor_at (b : UInt8) : IntKind.u32.wrap (b.toNat : Int) = (b.toNat : Int) := by
  have := b.toNat_lt
  unfold IntKind.wrap
  simp [IntKind.signed, IntKind.bits]
  omega

set_option maxHeartbeats 1600000 in
set_option maxRecDepth 100000 in
theorem sum_any (id : Nat) (hid : id ≤ 4611686018427387903) (text : ByteArray) (hs : text.size ≤ 1000000) (w : World) :
    Calls Tryz.prog 64 #[.int .i64 (id : Int), .string text] w fun e w' => e = .returned (.int .u32 (sumN id text : Int)) ∧ Below w.heap.size w w' := by
  have hw : IntKind.u64.wrap (id : Int) = (id : Int) := by unfold IntKind.wrap; simp [IntKind.signed, IntKind.bits]; omega
  have cP := put_any id w (by omega)
  have HS := (show Hid _ from (sum_at id text).1)
  have hl : (sumT id text).size ≤ 1000010 := by
    have h1 : (sumT id text).size = (enc id).length + text.size := by unfold sumT; rw [ByteArray.size_append, ba_size]
    have := (enc_len id).2
    omega
  have hE : ByteArray.mk (enc id).toArray ++ text = sumT id text := rfl
  have h10 : (ByteArray.mk (enc id).toArray).size ≤ 10 := (enc_len id).2
  rw [HS.out]
  clear HS hid
  generalize hS : sumT id text = S at *
  clear hS
  go_enter Tryz.func64, Tryz.ntmps64
  go_wp2_with fail
  refine cP.mono ?_
  rintro e w1 ⟨rfl, b1⟩
  clear cP
  go_wp2_with fail
  go_loopw [5, 15] (fun sn si wr => ∃ k : Nat, k ≤ S.size ∧ si = .int .i64 (k : Int) ∧ sn = .int .u32 (fnvI 2166136261 (S.data.toList.take k)) ∧ Hid (wr = w1)) (fun _ si _ => S.size - (Go.RowKit.intOf si).toNat)
  case atStart => exact ⟨0, Nat.zero_le _, rfl, rfl, rfl⟩
  case round =>
    obtain ⟨k, hk, rfl, rfl, hwr⟩ := hrel
    rw [hwr.out]
    clear hwr
    by_cases hlt : k < S.size
    · have hlt2 : (k : Int) < (S.size : Int) := by omega
      have hx : S.data.toList[k]? = some S[k] := by
        rw [Array.getElem?_toList, Array.getElem?_eq_getElem (by exact hlt)]
        rfl
      have HF := (show Hid _ from fnv_step S.data.toList k S[k] 2166136261 hx)
      have hb := xor_at S[k]
      clear hx
      generalize fnvI 2166136261 (S.data.toList.take k) = F at *
      go_wp2_with fail
      go_roundw
      case rel => exact ⟨k + 1, by omega, by go_num, by rw [HF.out], True.intro⟩
      case measure => simp [Go.RowKit.intOf]; omega
    · obtain rfl : k = S.size := by omega
      have hall : S.data.toList.take S.size = S.data.toList := List.take_of_length_le (by simp)
      rw [hall]
      have hlt2 : decide ((S.size : Int) < (S.size : Int)) = false := by simp
      go_wp2_with fail
      go_ret
      exact ⟨rfl, b1⟩

end Go.Proofs.YtkjioabhdglkpaaGreat
end

section
namespace Go.Proofs.YtkjioabhdglkpaaGreat
open Go.RowKit

theorem cat5 (a b c d : List UInt8) (s : ByteArray) : ByteArray.mk a.toArray ++ ByteArray.mk b.toArray ++ ByteArray.mk c.toArray ++ ByteArray.mk d.toArray ++ s = ba (a ++ b ++ c ++ d ++ s.data.toList) := by
  apply ba_ext
  simp [ba]
theorem u64_of {n : Nat} (h : n ≤ 4611686018427387903) : IntKind.u64.wrap (n : Int) = (n : Int) := by unfold IntKind.wrap; simp [IntKind.signed, IntKind.bits]; omega
/-- The worlds in which all that was there is there. -/
structure BelowW (w : World) where
  v : World
  b : Below w.heap.size w v
theorem BelowW.ne (w : World) : Nonempty (BelowW w) := ⟨⟨w, Below.refl _ _⟩⟩
theorem wp_region_quiet_b {P : Program} {id : Nat} {Q : Exit → Act → World → Prop} {a : Act} {w : World} {l : List Oper} (hm : P.follows .mixedOrders = true) (hB : Region.lexB .any l.toArray = true)
    (h : wpQuiet P l.toArray (fun w' => ∃ p : BelowW w, w' = p.v) (fun a' => ∀ w', (∃ p : BelowW w, w' = p.v) → Q .normal a' w') l a) : (Code.region id l.toArray true).wp P Q a w :=
  wp_region_quiet (C := fun w' => ∃ p : BelowW w, w' = p.v) hm hB ⟨⟨w.drew, (Below.refl _ _).drew⟩, rfl⟩ (by simpa using h)
theorem Calls.below_of {P : Program} {f : FuncId} {args : Array Value} {w : World} {p : BelowW w} {v : Value} (h : Calls P f args p.v fun e w' => e = .returned v ∧ Below p.v.heap.size p.v w') : Calls P f args p.v fun e w'' => e = .returned v ∧ ∃ q : BelowW w, w'' = q.v :=
  h.mono fun _ w'' ⟨he, hb⟩ => ⟨he, ⟨w'', below2 p.b hb⟩, rfl⟩
theorem Calls.below_of_same {P : Program} {f : FuncId} {args : Array Value} {w : World} {p : BelowW w} {v : Value} (h : Calls P f args p.v fun e w' => e = .returned v ∧ w' = p.v) : Calls P f args p.v fun e w'' => e = .returned v ∧ ∃ q : BelowW w, w'' = q.v :=
  h.mono fun _ _ ⟨he, hb⟩ => ⟨he, p, hb⟩
theorem BelowW.at {w : World} {b o : Nat} {x : Value} (hb : b < w.heap.size) (h : w.cell? ⟨b, o, none⟩ = some x) (p : BelowW w) : p.v.cell? ⟨b, o, none⟩ = some x := (p.b.cell (p := ⟨b, o, none⟩) hb).trans h
def pcObj (p : Pc) : Obj := .cells #[.int .i64 (p.id : Int), .int .i64 (p.no : Int), .int .i64 (p.size : Int), .int .u32 (p.sum : Int), .string p.part] 126

set_option maxHeartbeats 3200000 in
set_option maxRecDepth 100000 in
theorem bytes_any (p : Pc) (ok : p.Ok) (w : World) : Calls Tryz.prog 63 #[p.val] w fun e w' => e = .returned (.string (pb p)) ∧ Below w.heap.size w w' := by
  have h1 := ok.id.2
  have h2 := ok.no
  have h3 := ok.size
  have h4 := ok.sum
  have h5 := ok.part
  obtain ⟨id, no, size, sum, part⟩ := p
  simp only at h1 h2 h3 h4 h5
  have w1 := u64_of (n := id) (by omega)
  have w2 := u64_of (n := no) (by omega)
  have w3 := u64_of (n := size) (by omega)
  have w4 := u64_of (n := sum) (by omega)
  have p1 := fun w => put_any id w (by omega)
  have p2 := fun w => put_any no w (by omega)
  have p3 := fun w => put_any size w (by omega)
  have p4 := fun w => put_any sum w (by omega)
  have hpb : pb ⟨id, no, size, sum, part⟩ = ByteArray.mk (enc id).toArray ++ ByteArray.mk (enc no).toArray ++ ByteArray.mk (enc size).toArray ++ ByteArray.mk (enc sum).toArray ++ part := (cat5 (enc id) (enc no) (enc size) (enc sum) part).symm
  rw [hpb]
  have l1 : (ByteArray.mk (enc id).toArray).size ≤ 10 := (enc_len id).2
  have l2 : (ByteArray.mk (enc no).toArray).size ≤ 10 := (enc_len no).2
  have l3 : (ByteArray.mk (enc size).toArray).size ≤ 10 := (enc_len size).2
  have l4 : (ByteArray.mk (enc sum).toArray).size ≤ 10 := (enc_len sum).2
  unfold Pc.val
  clear ok h1 h2 h3 h4 hpb
  generalize ByteArray.mk (enc id).toArray = A at *
  generalize ByteArray.mk (enc no).toArray = B at *
  generalize ByteArray.mk (enc size).toArray = C at *
  generalize ByteArray.mk (enc sum).toArray = D at *
  have n1 : ¬ (9223372036854775807 : Int) < (A.size : Int) + (B.size : Int) := by omega
  have n2 : ¬ (9223372036854775807 : Int) < (A.size : Int) + (B.size : Int) + (C.size : Int) := by omega
  have n3 : ¬ (9223372036854775807 : Int) < (A.size : Int) + (B.size : Int) + (C.size : Int) + (D.size : Int) := by omega
  have n4 : ¬ (9223372036854775807 : Int) < (A.size : Int) + (B.size : Int) + (C.size : Int) + (D.size : Int) + (part.size : Int) := by omega
  go_enter Tryz.func63, Tryz.ntmps63
  go_upto_region 1 with fail
  have b0 := below_alloc1 w (pcObj ⟨id, no, size, sum, part⟩)
  have k0 : (w.alloc (pcObj ⟨id, no, size, sum, part⟩)).cell? ⟨w.heap.size, 0, none⟩ = some (.int .i64 (id : Int)) := by simp [pcObj]
  have k1 : (w.alloc (pcObj ⟨id, no, size, sum, part⟩)).cell? ⟨w.heap.size, 1, none⟩ = some (.int .i64 (no : Int)) := by simp [pcObj]
  have k2 : (w.alloc (pcObj ⟨id, no, size, sum, part⟩)).cell? ⟨w.heap.size, 2, none⟩ = some (.int .i64 (size : Int)) := by simp [pcObj]
  have k3 : (w.alloc (pcObj ⟨id, no, size, sum, part⟩)).cell? ⟨w.heap.size, 3, none⟩ = some (.int .u32 (sum : Int)) := by simp [pcObj]
  have k4 : (w.alloc (pcObj ⟨id, no, size, sum, part⟩)).cell? ⟨w.heap.size, 4, none⟩ = some (.string part) := by simp [pcObj]
  have hlt : w.heap.size < (w.alloc (pcObj ⟨id, no, size, sum, part⟩)).heap.size := by simp
  have hW : w.alloc (.cells #[.int .i64 (id : Int), .int .i64 (no : Int), .int .i64 (size : Int), .int .u32 (sum : Int), .string part] 126) = w.alloc (pcObj ⟨id, no, size, sum, part⟩) := rfl
  rw [hW]
  clear hW
  generalize w.alloc (pcObj ⟨id, no, size, sum, part⟩) = W at *
  have k0 := BelowW.at hlt k0
  have k1 := BelowW.at hlt k1
  have k2 := BelowW.at hlt k2
  have k3 := BelowW.at hlt k3
  have k4 := BelowW.at hlt k4
  have inst := BelowW.ne W
  refine wp_region_quiet_b (by kernel_rfl) (by kernel_rfl) ?_
  repeat (go_big_quiet_step (first
    | (go_at_call_of 90 (Value.int IntKind.u64 ((id : Nat) : Int)); exact Calls.below_of (p1 _))
    | (go_at_call_of 90 (Value.int IntKind.u64 ((no : Nat) : Int)); exact Calls.below_of (p2 _))
    | (go_at_call_of 90 (Value.int IntKind.u64 ((size : Nat) : Int)); exact Calls.below_of (p3 _))
    | (go_at_call_of 90 (Value.int IntKind.u64 ((sum : Nat) : Int)); exact Calls.below_of (p4 _))))
  refine wpQuiet_nil ?_
  intro _ hw'
  obtain ⟨⟨V, hB⟩, hw''⟩ := hw'
  subst hw''
  go_wp2_with fail
  go_ret
  exact ⟨rfl, below2 b0 hB⟩

end Go.Proofs.YtkjioabhdglkpaaGreat
end

section
namespace Go.Proofs.YtkjioabhdglkpaaGreat
open Go.RowKit

theorem range_step (id : Nat) (text : ByteArray) (k : Nat) : (List.range (k + 1)).map (pcAt id text) = (List.range k).map (pcAt id text) ++ [pcAt id text k] := by
  rw [List.range_succ, List.map_append]; rfl

/-- A block of a piece: the source of an append. -/
theorem pc_src (w : World) (p : Pc) : ∀ j u, (([p] : List Pc).flatMap Pc.cells)[j]? = some u → (w.alloc (pcObj p)).cell? ((⟨w.heap.size, 0, none⟩ : Addr).add j) = some u := by
  intro j u hu
  rw [Addr.add_lit]
  simp only [List.flatMap_cons, List.flatMap_nil, List.append_nil, Pc.cells] at hu
  match j, hu with
  | 0, hu => simp at hu; subst hu; simp [pcObj]
  | 1, hu => simp at hu; subst hu; simp [pcObj]
  | 2, hu => simp at hu; subst hu; simp [pcObj]
  | 3, hu => simp at hu; subst hu; simp [pcObj]
  | 4, hu => simp at hu; subst hu; simp [pcObj]
  | (j + 5), hu => simp at hu

set_option maxHeartbeats 1600000 in
set_option maxRecDepth 100000 in
theorem split_any (id : Nat) (hid : id ≤ 4611686018427387903) (text : ByteArray) (hs : text.size ≤ 100000) (w : World) :
    Calls Tryz.prog 35 #[.int .i64 (id : Int), .string text] w fun e w' => ∃ v, e = .returned v ∧ PRow w' w.heap.size v (pcsN id text) ∧ Below w.heap.size w w' := by
  have cS := sum_any id hid text (by omega) w
  have cC := count_any' text.size (by omega)
  have hcn : cntN text.size ≤ 1000 := by unfold cntN; omega
  have HN : Hid (∀ k, k < cntN text.size → k * 360 ≤ text.size) := fun k hk => by unfold cntN at hk; omega
  have HP : Hid (∀ k, pcAt id text k = ⟨id, k, text.size, sumN id text, text.extract (k * 360) (min (k * 360 + 360) text.size)⟩) := fun k => rfl
  have HR : Hid ((List.range (cntN text.size)).map (pcAt id text) = pcsN id text) := rfl
  have HT := (show Hid _ from range_step id text)
  generalize sumN id text = S at *
  generalize cntN text.size = C at *
  go_enter Tryz.func35, Tryz.ntmps35
  go_wp2_with fail
  refine cS.mono ?_
  rintro e w1 ⟨rfl, b1⟩
  clear cS
  go_wp2_with fail
  refine (cC w1).mono ?_
  rintro e w2 ⟨rfl, hw2⟩
  rw [hw2]
  clear hw2 cC
  go_wp2_with fail
  go_loopw [6, 16] (fun sl sk wr => ∃ k : Nat, k ≤ C ∧ sk = .int .i64 (k : Int) ∧ PRow wr w1.heap.size sl ((List.range k).map (pcAt id text)) ∧ Below w1.heap.size w1 wr) (fun _ sk _ => C - (Go.RowKit.intOf sk).toNat)
  case atStart => exact ⟨0, Nat.zero_le _, rfl, grow_nil _ _ _ _ _, Below.refl _ _⟩
  case round =>
    obtain ⟨k, hk, rfl, hrow, hb⟩ := hrel
    obtain ⟨la, lc, rfl, _, _⟩ := hrow.len
    by_cases hlt : k < C
    · have hlt2 : (k : Int) < (C : Int) := by omega
      have hk2 := HN.out k hlt
      have hk3 : ((k * 360 : Nat) : Int) ≤ (text.size : Int) := by omega
      have hT := HT.out k
      rw [HP.out k] at hT
      have HT2 := (show Hid _ from hT)
      clear hT
      have hsl : ∀ W : World, (Instr.slice 9 (.string text) (some (.int .i64 ((k : Int) * 360))) (some (.int .i64 (min ((k : Int) * 360 + 360) (text.size : Int)))) none).run Tryz.prog W = .ok (.string (text.extract (k * 360) (min (k * 360 + 360) text.size))) W := by
        intro W
        rw [run_slice_string_if W 9 text .i64 .i64 _ _ Tryz.underlying9, if_pos (by omega), if_pos (by omega)]
        rw [show ((k : Int) * 360).toNat = k * 360 from by omega, show (min ((k : Int) * 360 + 360) (text.size : Int)).toNat = min (k * 360 + 360) text.size from by omega]
      generalize text.extract (k * 360) (min (k * 360 + 360) text.size) = X at *
      have hb1 := below2 hb (below_alloc1 wr (pcObj ⟨id, k, text.size, S, X⟩))
      have hr1 := hrow.below' (below_alloc1 wr (pcObj ⟨id, k, text.size, S, X⟩))
      have hsrc := pc_src wr ⟨id, k, text.size, S, X⟩
      have hll : ((List.range k).map (pcAt id text)).length ≤ 1000 := by simp; omega
      generalize (List.range k).map (pcAt id text) = L at *
      go_wp2_with (at_builtin; refine wpList_append_row pc_len pc_one Tryz.underlying75 Tryz.info126 rfl (by decide) (by decide) _ rfl _ _ rfl w1.heap.size _ L [(⟨id, k, text.size, S, X⟩ : Pc)] rfl hr1 ⟨wr.heap.size, 0, none⟩ 1 (by simp; rfl) hsrc (by simp; omega) hb1.size ?_; intro v' w' hrow' hfr hnew)
      go_roundw
      case rel => exact ⟨k + 1, by omega, by go_num, by rw [HT2.out]; exact hrow', hfr.below hb1 hb1.size (fun k e => (hr1.blk e).1)⟩
      case measure => simp [Go.RowKit.intOf]; omega
    · obtain rfl : k = C := by omega
      have hlt2 : decide ((k : Int) < (k : Int)) = false := by simp
      go_wp2_with fail
      go_ret
      exact ⟨_, rfl, by rw [← HR.out]; exact hrow.mono b1.size, below2 b1 hb⟩

end Go.Proofs.YtkjioabhdglkpaaGreat
end

section
namespace Go.Proofs.YtkjioabhdglkpaaGreat
open Go.RowKit

theorem neq_pc (id no size sum : Int) (part : ByteArray) (w : World) : (binOp .neq 126 (.agg #[.int .i64 id, .int .i64 no, .int .i64 size, .int .u32 sum, .string part]) (.agg #[.int .i64 id, .int .i64 no, .int .i64 size, .int .u32 sum, .string part])).run Tryz.prog w = .ok (.bool false) w := by
  have u2 := Tryz.underlying2
  have u3 := Tryz.underlying3
  have u9 := Tryz.underlying9
  have u4 := Tryz.underlying124
  have hS : Tryz.prog.underlying 126 = some (.struct (Tryz.prog.fieldsOf 126)) := by kernel_rfl
  have hp : Tryz.prog.stoodInHeld 126 = false := by kernel_rfl
  rw [run_neq_struct, show (10000 : Nat) = 9999 + 1 from rfl, run_equalIn_agg w 9999 126 _ _ hS hp]
  simp only [Program.fieldsOf, Tryz.underlying126]
  go_simp

set_option maxHeartbeats 1600000 in
set_option maxRecDepth 100000 in
theorem equal_any (l : List Pc) (A B : Nat) (v1 v2 : Value) (w : World) (h1 : PRow w A v1 l) (h2 : PRow w B v2 l) (hl : l.length ≤ 1000000) :
    Calls Tryz.prog 68 #[v1, v2] w fun e w' => e = .returned (.bool true) ∧ Below w.heap.size w w' := by
  obtain ⟨a1, c1, rfl, _, _⟩ := h1.len
  obtain ⟨a2, c2, rfl, _, _⟩ := h2.len
  go_enter Tryz.func68, Tryz.ntmps68
  go_wp2_with fail
  go_loopw [13] (fun si wr => ∃ k : Nat, k ≤ l.length ∧ si = .int .i64 (k : Int) ∧ Below w.heap.size w wr) (fun si _ => l.length - (Go.RowKit.intOf si).toNat)
  case atStart => exact ⟨0, Nat.zero_le _, rfl, Below.refl _ _⟩
  case round =>
    obtain ⟨k, hk, rfl, hb⟩ := hrel
    by_cases hlt : k < l.length
    · have hlt2 : (k : Int) < (l.length : Int) := by omega
      have hx : l[k]? = some l[k] := by simp [hlt]
      generalize l[k] = p at hx
      obtain ⟨b1, _, e, _, _, l1, q1⟩ := h1.cell pc_len hx
      cases e
      obtain ⟨b2, _, e, _, _, l2, q2⟩ := h2.cell pc_len hx
      cases e
      obtain ⟨id, no, size, sum, part⟩ := p
      have r1 : ∀ j u, (Pc.cells ⟨id, no, size, sum, part⟩)[j]? = some u → wr.cell? ⟨b1, k * 5 + j, none⟩ = some u := fun j u hu => (hb.cell (p := ⟨b1, k * 5 + j, none⟩) l1).trans (q1 j u hu)
      have r2 : ∀ j u, (Pc.cells ⟨id, no, size, sum, part⟩)[j]? = some u → wr.cell? ⟨b2, k * 5 + j, none⟩ = some u := fun j u hu => (hb.cell (p := ⟨b2, k * 5 + j, none⟩) l2).trans (q2 j u hu)
      have s0 : wr.cell? ⟨b1, k * 5, none⟩ = some (.int .i64 (id : Int)) := r1 0 _ rfl
      have s1 := r1 1 _ rfl
      have s2 := r1 2 _ rfl
      have s3 := r1 3 _ rfl
      have s4 := r1 4 _ rfl
      have t0 : wr.cell? ⟨b2, k * 5, none⟩ = some (.int .i64 (id : Int)) := r2 0 _ rfl
      have t1 := r2 1 _ rfl
      have t2 := r2 2 _ rfl
      have t3 := r2 3 _ rfl
      have t4 := r2 4 _ rfl
      have hn := fun w => neq_pc id no size sum part w
      clear q1 q2 r1 r2 hx h1 h2
      go_wp2_with fail
      go_quiet (fail)
      go_wp2_with fail
      go_roundw
      case rel => exact ⟨k + 1, by omega, by go_num, ⟨hb.os, hb.tape, hb.output, hb.size, hb.block⟩⟩
      case measure => simp [Go.RowKit.intOf]; omega
    · obtain rfl : k = l.length := by omega
      have hlt2 : decide ((l.length : Int) < (l.length : Int)) = false := by simp
      go_wp2_with fail
      go_ret
      exact ⟨rfl, hb⟩

theorem bd_zero (w : World) : Bd w.heap.size w.heap.size [] (w.alloc (.cells #[.pointer none, .slice none 0 0] 142)) :=
  Or.inl ⟨Nat.le_refl _, .slice none 0 0, heap_alloc_new w _, World.ownsRowF_nil _ _ _ _, by simp [Value.ownBlock]⟩
theorem bdString2 (B b : Nat) (l : List UInt8) (w : World) (h : Bd B b l w) (hBw : B ≤ w.heap.size) :
    Calls Tryz.prog 69 #[.pointer (some ⟨b, 0, none⟩)] w fun e w' => e = .returned (.string (ba l)) ∧ Bd B b l w' ∧ Below B w w' := Tryz.Builder_String_any_f B b l w h hBw
theorem cat_step (l : List Pc) (k : Nat) (p : Pc) (h : l[k]? = some p) : (l.take (k + 1)).flatMap (fun p => p.part.data.toList) = (l.take k).flatMap (fun p => p.part.data.toList) ++ p.part.data.toList := by
  rw [List.take_add_one, h, List.flatMap_append]
  simp

set_option maxHeartbeats 1600000 in
set_option maxRecDepth 100000 in
theorem rjoin_any (id : Nat) (hid : id ≤ 4611686018427387903) (text : ByteArray) (hs : text.size ≤ 100000) (A : Nat) (v : Value) (w : World) (h : PRow w A v (pcsN id text)) :
    Calls Tryz.prog 42 #[.int .i64 (id : Int), v] w fun e w' => e = .returned (.tuple #[.string text, .bool true]) ∧ Below w.heap.size w w' := by
  have hcat := parts_cat id text
  have hll := pcs_len id text
  have hC : cntN text.size ≤ 1000 := by unfold cntN; omega
  rw [← hll] at hC
  have HSp := (show Hid _ from split_any id hid text hs)
  have HL : Hid (∀ k, ((pcsN id text).take k).flatMap (fun p => p.part.data.toList) = text.data.toList.take (((pcsN id text).take k).flatMap (fun p => p.part.data.toList)).length) := fun k => by
    have e : (pcsN id text).flatMap (fun p => p.part.data.toList) = ((pcsN id text).take k).flatMap (fun p => p.part.data.toList) ++ ((pcsN id text).drop k).flatMap (fun p => p.part.data.toList) := by rw [← List.flatMap_append, List.take_append_drop]
    rw [hcat] at e
    rw [e, List.take_left]
  have hts : text.data.toList.length = text.size := by simp
  have htb : ba text.data.toList = text := by apply ba_ext; simp [ba]
  have HE := (show Hid _ from fun A B v1 v2 w h1 h2 => equal_any (pcsN id text) A B v1 v2 w h1 h2 (by omega))
  clear hll
  generalize pcsN id text = L at *
  obtain ⟨a1, c1, rfl, _, _⟩ := h.len
  go_enter Tryz.func42, Tryz.ntmps42
  go_wp2_with fail
  have hz := bd_zero w
  have hbz := below_alloc1 w (.cells #[.pointer none, .slice none 0 0] 142)
  have hzl : w.heap.size < (w.alloc (.cells #[.pointer none, .slice none 0 0] 142)).heap.size := by simp
  generalize w.alloc (.cells #[.pointer none, .slice none 0 0] 142) = wz at *
  go_loopw [11] (fun si wr => ∃ k : Nat, k ≤ L.length ∧ si = .int .i64 (k : Int) ∧ Hid (Bd w.heap.size w.heap.size ((L.take k).flatMap (fun p => p.part.data.toList)) wr) ∧ Below w.heap.size w wr ∧ w.heap.size < wr.heap.size) (fun si _ => L.length - (Go.RowKit.intOf si).toNat)
  case atStart => exact ⟨0, Nat.zero_le _, rfl, hz, hbz, hzl⟩
  case round =>
    obtain ⟨k, hk, rfl, hD, hb, hwl⟩ := hrel
    by_cases hlt : k < L.length
    · have hlt2 : (k : Int) < (L.length : Int) := by omega
      have hx : L[k]? = some L[k] := by simp [hlt]
      generalize L[k] = p at hx
      obtain ⟨b1, _, e, _, _, l1, q1⟩ := h.cell pc_len hx
      cases e
      have hst := cat_step L k p hx
      have hl2 := congrArg List.length (HL.out (k + 1))
      rw [List.length_take] at hl2
      obtain ⟨id', no, size, sum, part⟩ := p
      have r1 : ∀ j u, (Pc.cells ⟨id', no, size, sum, part⟩)[j]? = some u → wr.cell? ⟨b1, k * 5 + j, none⟩ = some u := fun j u hu => (hb.cell (p := ⟨b1, k * 5 + j, none⟩) l1).trans (q1 j u hu)
      have s0 : wr.cell? ⟨b1, k * 5, none⟩ = some (.int .i64 (id' : Int)) := r1 0 _ rfl
      have s1 := r1 1 _ rfl
      have s2 := r1 2 _ rfl
      have s3 := r1 3 _ rfl
      have s4 := r1 4 _ rfl
      have HS := (show Hid _ from hst)
      have hpl : ((L.take k).flatMap (fun p => p.part.data.toList)).length + part.size ≤ text.size := by
        have := congrArg List.length hst
        rw [List.length_append] at this
        have e2 : part.data.toList.length = part.size := by simp
        simp only at this
        omega
      have hD1 : Bd w.heap.size w.heap.size ((L.take k).flatMap (fun p => p.part.data.toList)) (wr.alloc (pcObj ⟨id', no, size, sum, part⟩)) := hD.out.below (below_alloc1 _ _)
      have hb1 := below2 hb (below_alloc1 wr (pcObj ⟨id', no, size, sum, part⟩))
      have cW := bdWrite_any _ _ _ part _ hD1 (by omega) (by simp; omega)
      have e0 : wr.alloc (.cells #[.int .i64 (id' : Int), .int .i64 (no : Int), .int .i64 (size : Int), .int .u32 (sum : Int), .string part] 126) = wr.alloc (pcObj ⟨id', no, size, sum, part⟩) := rfl
      have k4 : (wr.alloc (pcObj ⟨id', no, size, sum, part⟩)).cell? ⟨wr.heap.size, 4, none⟩ = some (.string part) := by simp [pcObj]
      clear q1 r1 hx hst hl2 hD
      go_wp2_with fail
      refine cW.mono ?_
      rintro e w3 ⟨rfl, hD3, hb3, _⟩
      have hb4 := hb1.trans hb3
      have HD3 := (show Hid _ from hD3)
      have hw3 := hb3.size
      rw [← HS.out] at HD3
      clear cW hD3 hD1
      go_wp2_with fail
      go_roundw
      case rel => exact ⟨k + 1, by omega, by go_num, HD3, hb4, by simp at hw3; omega⟩
      case measure => simp [Go.RowKit.intOf]; omega
    · obtain rfl : k = L.length := by omega
      have hlt2 : decide ((L.length : Int) < (L.length : Int)) = false := by simp
      have hD2 := hD.out
      rw [List.take_length, hcat] at hD2
      have cA := bdString2 _ _ _ _ hD2 hb.size
      rw [htb] at cA
      clear hD hD2
      go_wp2_with fail
      refine cA.mono ?_
      rintro e w3 ⟨rfl, d3, b3⟩
      have hb3 := hb.trans b3
      have cB := HSp.out w3
      clear cA
      go_wp2_with fail
      refine cB.mono ?_
      rintro e w4 ⟨v4, rfl, r4, b4⟩
      have hb4 := below2 hb3 b4
      have d4 := d3.below b4
      have hA := h.kept (fun k e => hb4.block k (h.blk e).2)
      have cE := HE.out A w3.heap.size _ v4 w4 hA r4
      clear cB d3 hA
      go_wp2_with fail
      refine cE.mono ?_
      rintro e w5 ⟨rfl, b5⟩
      have hb5 := below2 hb4 b5
      have cA2 := bdString2 _ _ _ _ (d4.below b5) hb5.size
      rw [htb] at cA2
      clear cE d4
      go_wp2_with fail
      refine cA2.mono ?_
      rintro e w6 ⟨rfl, _, b6⟩
      clear cA2
      go_wp2_with fail
      go_ret2
      exact ⟨rfl, hb5.trans b6⟩

end Go.Proofs.YtkjioabhdglkpaaGreat
end

section
namespace Go.Proofs.YtkjioabhdglkpaaGreat
open Go.RowKit

theorem get_at (S : ByteArray) (q : Nat) (n k : Nat) (h : getAt S.data.toList (q : Int) = (n, k, true)) (w : World) : Calls Tryz.prog 110 #[.string S, .int .i64 (q : Int)] w fun e w' => e = .returned (.tuple #[.int .u64 (n : Int), .int .i64 (k : Int), .bool true]) ∧ w' = w := by
  have c := get_any S (q : Int) w
  rw [h] at c
  exact c

theorem three_new (w : World) (a b c : Obj) : (((w.alloc a).alloc b).alloc c).heap[w.heap.size]? = some a ∧ (((w.alloc a).alloc b).alloc c).heap[w.heap.size + 1]? = some b ∧ (((w.alloc a).alloc b).alloc c).heap[w.heap.size + 1 + 1]? = some c := by
  have e : (((w.alloc a).alloc b).alloc c).heap = ((w.heap.push a).push b).push c := rfl
  rw [e]
  refine ⟨?_, ?_, ?_⟩
  · rw [Array.getElem?_push_lt (by simp; omega)]; simp [Array.getElem_push]
  · rw [Array.getElem?_push_lt (by simp)]; simp [Array.getElem_push]
  · rw [show w.heap.size + 1 + 1 = ((w.heap.push a).push b).size by simp, Array.getElem?_push_size]
theorem cell_in {w : World} {b : Nat} {cs : Array Value} {T : TypeId} (h : w.heap[b]? = some (.cells cs T)) (j : Nat) (v : Value) (hj : cs[j]? = some v) : w.cell? ⟨b, j, none⟩ = some v := by simp [World.cell?, h, hj]
theorem free_in {w : World} {b : Nat} {cs : Array Value} {T : TypeId} (h : w.heap[b]? = some (.cells cs T)) (j : Nat) : w.frozen? ⟨b, j, none⟩ = false := by simp [World.frozen?, h]
theorem ix4 (w : World) : (Instr.index 187 (.agg #[.int .u64 4611686018427387903, .int .u64 4000, .int .u64 4000, .int .u64 4294967295]) (.int .i64 0)).run Tryz.prog w = .ok (.int .u64 4611686018427387903) w ∧ (Instr.index 187 (.agg #[.int .u64 4611686018427387903, .int .u64 4000, .int .u64 4000, .int .u64 4294967295]) (.int .i64 1)).run Tryz.prog w = .ok (.int .u64 4000) w ∧ (Instr.index 187 (.agg #[.int .u64 4611686018427387903, .int .u64 4000, .int .u64 4000, .int .u64 4294967295]) (.int .i64 2)).run Tryz.prog w = .ok (.int .u64 4000) w ∧ (Instr.index 187 (.agg #[.int .u64 4611686018427387903, .int .u64 4000, .int .u64 4000, .int .u64 4294967295]) (.int .i64 3)).run Tryz.prog w = .ok (.int .u64 4294967295) w := by
  have h := Tryz.underlying187
  have z := Tryz.sizeOf167
  have a := Tryz.isAgg167
  refine ⟨?_, ?_, ?_, ?_⟩ <;> simp [Instr.index, run_underlying h, asIntOf, go_sem]

set_option maxHeartbeats 3200000 in
set_option maxRecDepth 100000 in
theorem parse_any (p : Pc) (ok : p.Ok) (w : World) : Calls Tryz.prog 82 #[.string (pb p)] w fun e w' => e = .returned (.tuple #[p.val, .bool true]) ∧ Below w.heap.size w w' := by
  obtain ⟨g1, g2, g3, g4, g5, g6⟩ := pc_gets ok _ _ _ _ rfl rfl rfl rfl
  have h1 := ok.id
  have h2 := ok.no
  have h3 := ok.size
  have h4 := ok.sum
  have l1 := (enc_len p.id)
  have l2 := (enc_len p.no)
  have l3 := (enc_len p.size)
  have l4 := (enc_len p.sum)
  generalize pb p = S at *
  obtain ⟨id, no, size, sum, part⟩ := p
  simp only at *
  generalize (enc id).length = la at *
  generalize (enc no).length = lb at *
  generalize (enc size).length = lc at *
  generalize (enc sum).length = ld at *
  have c1 : ∀ w, Calls Tryz.prog 110 #[.string S, .int .i64 0] w fun e w' => e = .returned (.tuple #[.int .u64 (id : Int), .int .i64 (la : Int), .bool true]) ∧ w' = w := get_at S 0 id la g1
  have i0 := fun w => (ix4 w).1
  have i1 := fun w => (ix4 w).2.1
  have i2 := fun w => (ix4 w).2.2.1
  have i3 := fun w => (ix4 w).2.2.2
  have c2 := get_at S la no lb g2
  have c3 := get_at S (la + lb) size lc g3
  have c4 := get_at S (la + lb + lc) sum ld g4
  rw [Int.natCast_add] at c3
  rw [Int.natCast_add, Int.natCast_add] at c4
  have hsl : ∀ W : World, (Instr.slice 9 (.string S) (some (.int .i64 ((la : Int) + (lb : Int) + (lc : Int) + (ld : Int)))) none none).run Tryz.prog W = .ok (.string part) W := by
    intro W
    rw [run_slice_string_l (P := Tryz.prog) W 9 S Tryz.underlying9 .i64 _ (by omega) (by omega), ← g5]
    congr 3
  have w1 : IntKind.i64.wrap (id : Int) = (id : Int) := by rw [IntKind.wrap_i64]; omega
  have w2 : IntKind.i64.wrap (no : Int) = (no : Int) := by rw [IntKind.wrap_i64]; omega
  have w3 : IntKind.i64.wrap (size : Int) = (size : Int) := by rw [IntKind.wrap_i64]; omega
  have w4 : IntKind.u32.wrap (sum : Int) = (sum : Int) := by unfold IntKind.wrap; simp [IntKind.signed, IntKind.bits]; omega
  have d1 : decide ((4611686018427387903 : Int) < (id : Int)) = false := by simp; omega
  have d2 : decide ((4000 : Int) < (no : Int)) = false := by simp; omega
  have d3 : decide ((4000 : Int) < (size : Int)) = false := by simp; omega
  have d4 : decide ((4294967295 : Int) < (sum : Int)) = false := by simp; omega
  have d0 : ((id : Int) == 0) = false := by simp; omega
  clear ok g1 g2 g3 g4 g5
  go_enter Tryz.func82, Tryz.ntmps82
  go_wp2_with fail
  refine wp_loop_rounds 5 ?_
  rw [rounds_succ]
  go_wp2_with fail
  refine (c1 _).mono ?_
  rintro e w5 ⟨rfl, hw⟩
  rw [hw]
  clear hw w5 c1
  go_wp2_with fail
  rw [rounds_succ]
  go_wp2_with fail
  refine (c2 _).mono ?_
  rintro e w5 ⟨rfl, hw⟩
  rw [hw]
  clear hw w5 c2
  go_wp2_with fail
  rw [rounds_succ]
  go_wp2_with fail
  refine (c3 _).mono ?_
  rintro e w5 ⟨rfl, hw⟩
  rw [hw]
  clear hw w5 c3
  go_wp2_with fail
  rw [rounds_succ]
  go_wp2_with fail
  refine (c4 _).mono ?_
  rintro e w5 ⟨rfl, hw⟩
  rw [hw]
  clear hw w5 c4
  go_wp2_with fail
  rw [rounds_succ]
  go_upto_region 15 with fail
  have b0 : Below w.heap.size w (((w.alloc (.cells #[.int .i64 0, .int .i64 0, .int .i64 0, .int .u32 0, .string ⟨#[]⟩] 126)).alloc (.cells #[.int .u64 4611686018427387903, .int .u64 4000, .int .u64 4000, .int .u64 4294967295] 187)).alloc (.cells #[.int .u64 (id : Int), .int .u64 (no : Int), .int .u64 (size : Int), .int .u64 (sum : Int)] 187)) := below_alloc3 w _ _ _
  obtain ⟨n0, n1, n2⟩ := three_new w (.cells #[.int .i64 0, .int .i64 0, .int .i64 0, .int .u32 0, .string ⟨#[]⟩] 126) (.cells #[.int .u64 4611686018427387903, .int .u64 4000, .int .u64 4000, .int .u64 4294967295] 187) (.cells #[.int .u64 (id : Int), .int .u64 (no : Int), .int .u64 (size : Int), .int .u64 (sum : Int)] 187)
  have k0 : (((w.alloc (.cells #[.int .i64 0, .int .i64 0, .int .i64 0, .int .u32 0, .string ⟨#[]⟩] 126)).alloc (.cells #[.int .u64 4611686018427387903, .int .u64 4000, .int .u64 4000, .int .u64 4294967295] 187)).alloc (.cells #[.int .u64 (id : Int), .int .u64 (no : Int), .int .u64 (size : Int), .int .u64 (sum : Int)] 187)).cell? ⟨w.heap.size + 1 + 1, 0, none⟩ = some (.int .u64 (id : Int)) := cell_in n2 _ _ rfl
  have k1 : (((w.alloc (.cells #[.int .i64 0, .int .i64 0, .int .i64 0, .int .u32 0, .string ⟨#[]⟩] 126)).alloc (.cells #[.int .u64 4611686018427387903, .int .u64 4000, .int .u64 4000, .int .u64 4294967295] 187)).alloc (.cells #[.int .u64 (id : Int), .int .u64 (no : Int), .int .u64 (size : Int), .int .u64 (sum : Int)] 187)).cell? ⟨w.heap.size + 1 + 1, 1, none⟩ = some (.int .u64 (no : Int)) := cell_in n2 _ _ rfl
  have k2 : (((w.alloc (.cells #[.int .i64 0, .int .i64 0, .int .i64 0, .int .u32 0, .string ⟨#[]⟩] 126)).alloc (.cells #[.int .u64 4611686018427387903, .int .u64 4000, .int .u64 4000, .int .u64 4294967295] 187)).alloc (.cells #[.int .u64 (id : Int), .int .u64 (no : Int), .int .u64 (size : Int), .int .u64 (sum : Int)] 187)).cell? ⟨w.heap.size + 1 + 1, 2, none⟩ = some (.int .u64 (size : Int)) := cell_in n2 _ _ rfl
  have k3 : (((w.alloc (.cells #[.int .i64 0, .int .i64 0, .int .i64 0, .int .u32 0, .string ⟨#[]⟩] 126)).alloc (.cells #[.int .u64 4611686018427387903, .int .u64 4000, .int .u64 4000, .int .u64 4294967295] 187)).alloc (.cells #[.int .u64 (id : Int), .int .u64 (no : Int), .int .u64 (size : Int), .int .u64 (sum : Int)] 187)).cell? ⟨w.heap.size + 1 + 1, 3, none⟩ = some (.int .u64 (sum : Int)) := cell_in n2 _ _ rfl
  have r0 : (((w.alloc (.cells #[.int .i64 0, .int .i64 0, .int .i64 0, .int .u32 0, .string ⟨#[]⟩] 126)).alloc (.cells #[.int .u64 4611686018427387903, .int .u64 4000, .int .u64 4000, .int .u64 4294967295] 187)).alloc (.cells #[.int .u64 (id : Int), .int .u64 (no : Int), .int .u64 (size : Int), .int .u64 (sum : Int)] 187)).cell? ⟨w.heap.size, 0, none⟩ = some (.int .i64 0) := cell_in n0 _ _ rfl
  have r1 : (((w.alloc (.cells #[.int .i64 0, .int .i64 0, .int .i64 0, .int .u32 0, .string ⟨#[]⟩] 126)).alloc (.cells #[.int .u64 4611686018427387903, .int .u64 4000, .int .u64 4000, .int .u64 4294967295] 187)).alloc (.cells #[.int .u64 (id : Int), .int .u64 (no : Int), .int .u64 (size : Int), .int .u64 (sum : Int)] 187)).cell? ⟨w.heap.size, 1, none⟩ = some (.int .i64 0) := cell_in n0 _ _ rfl
  have r2 : (((w.alloc (.cells #[.int .i64 0, .int .i64 0, .int .i64 0, .int .u32 0, .string ⟨#[]⟩] 126)).alloc (.cells #[.int .u64 4611686018427387903, .int .u64 4000, .int .u64 4000, .int .u64 4294967295] 187)).alloc (.cells #[.int .u64 (id : Int), .int .u64 (no : Int), .int .u64 (size : Int), .int .u64 (sum : Int)] 187)).cell? ⟨w.heap.size, 2, none⟩ = some (.int .i64 0) := cell_in n0 _ _ rfl
  have r3 : (((w.alloc (.cells #[.int .i64 0, .int .i64 0, .int .i64 0, .int .u32 0, .string ⟨#[]⟩] 126)).alloc (.cells #[.int .u64 4611686018427387903, .int .u64 4000, .int .u64 4000, .int .u64 4294967295] 187)).alloc (.cells #[.int .u64 (id : Int), .int .u64 (no : Int), .int .u64 (size : Int), .int .u64 (sum : Int)] 187)).cell? ⟨w.heap.size, 3, none⟩ = some (.int .u32 0) := cell_in n0 _ _ rfl
  have r4 : (((w.alloc (.cells #[.int .i64 0, .int .i64 0, .int .i64 0, .int .u32 0, .string ⟨#[]⟩] 126)).alloc (.cells #[.int .u64 4611686018427387903, .int .u64 4000, .int .u64 4000, .int .u64 4294967295] 187)).alloc (.cells #[.int .u64 (id : Int), .int .u64 (no : Int), .int .u64 (size : Int), .int .u64 (sum : Int)] 187)).cell? ⟨w.heap.size, 4, none⟩ = some (.string ⟨#[]⟩) := cell_in n0 _ _ rfl
  have z0 : (((w.alloc (.cells #[.int .i64 0, .int .i64 0, .int .i64 0, .int .u32 0, .string ⟨#[]⟩] 126)).alloc (.cells #[.int .u64 4611686018427387903, .int .u64 4000, .int .u64 4000, .int .u64 4294967295] 187)).alloc (.cells #[.int .u64 (id : Int), .int .u64 (no : Int), .int .u64 (size : Int), .int .u64 (sum : Int)] 187)).frozen? ⟨w.heap.size, 0, none⟩ = false := free_in n0 _
  have z1 : (((w.alloc (.cells #[.int .i64 0, .int .i64 0, .int .i64 0, .int .u32 0, .string ⟨#[]⟩] 126)).alloc (.cells #[.int .u64 4611686018427387903, .int .u64 4000, .int .u64 4000, .int .u64 4294967295] 187)).alloc (.cells #[.int .u64 (id : Int), .int .u64 (no : Int), .int .u64 (size : Int), .int .u64 (sum : Int)] 187)).frozen? ⟨w.heap.size, 1, none⟩ = false := free_in n0 _
  have z2 : (((w.alloc (.cells #[.int .i64 0, .int .i64 0, .int .i64 0, .int .u32 0, .string ⟨#[]⟩] 126)).alloc (.cells #[.int .u64 4611686018427387903, .int .u64 4000, .int .u64 4000, .int .u64 4294967295] 187)).alloc (.cells #[.int .u64 (id : Int), .int .u64 (no : Int), .int .u64 (size : Int), .int .u64 (sum : Int)] 187)).frozen? ⟨w.heap.size, 2, none⟩ = false := free_in n0 _
  have z3 : (((w.alloc (.cells #[.int .i64 0, .int .i64 0, .int .i64 0, .int .u32 0, .string ⟨#[]⟩] 126)).alloc (.cells #[.int .u64 4611686018427387903, .int .u64 4000, .int .u64 4000, .int .u64 4294967295] 187)).alloc (.cells #[.int .u64 (id : Int), .int .u64 (no : Int), .int .u64 (size : Int), .int .u64 (sum : Int)] 187)).frozen? ⟨w.heap.size, 3, none⟩ = false := free_in n0 _
  have z4 : (((w.alloc (.cells #[.int .i64 0, .int .i64 0, .int .i64 0, .int .u32 0, .string ⟨#[]⟩] 126)).alloc (.cells #[.int .u64 4611686018427387903, .int .u64 4000, .int .u64 4000, .int .u64 4294967295] 187)).alloc (.cells #[.int .u64 (id : Int), .int .u64 (no : Int), .int .u64 (size : Int), .int .u64 (sum : Int)] 187)).frozen? ⟨w.heap.size, 4, none⟩ = false := free_in n0 _
  clear n0 n1 n2
  generalize ((w.alloc (.cells #[.int .i64 0, .int .i64 0, .int .i64 0, .int .u32 0, .string ⟨#[]⟩] 126)).alloc (.cells #[.int .u64 4611686018427387903, .int .u64 4000, .int .u64 4000, .int .u64 4294967295] 187)).alloc (.cells #[.int .u64 (id : Int), .int .u64 (no : Int), .int .u64 (size : Int), .int .u64 (sum : Int)] 187) = W0 at *
  go_region
  go_wp2_with fail
  exact bodyPost_ret (v := .tuple #[Pc.val ⟨id, no, size, sum, part⟩, .bool true]) (by simp [results, Tryz.results82, go_sem, Pc.val, r0, r1, r2, r3, r4]) rfl ⟨rfl, (((((b0.setCell (p := ⟨w.heap.size, 0, none⟩) (Nat.le_refl _) _).setCell (p := ⟨w.heap.size, 1, none⟩) (Nat.le_refl _) _).setCell (p := ⟨w.heap.size, 2, none⟩) (Nat.le_refl _) _).setCell (p := ⟨w.heap.size, 3, none⟩) (Nat.le_refl _) _).setCell (p := ⟨w.heap.size, 4, none⟩) (Nat.le_refl _) _).drew⟩

end Go.Proofs.YtkjioabhdglkpaaGreat
end

section
namespace Go.Proofs.YtkjioabhdglkpaaGreat
open Go.RowKit

def Keep (G : Nat → Prop) (w w' : World) : Prop := ∀ k, G k → w'.heap[k]? = w.heap[k]?
theorem Keep.trans {G : Nat → Prop} {a b c : World} (h : Keep G a b) (k : Keep G b c) : Keep G a c := fun i hi => (k i hi).trans (h i hi)
theorem Keep.refl (G : Nat → Prop) (w : World) : Keep G w w := fun _ _ => rfl
theorem Keep.less {G G' : Nat → Prop} {a b : World} (h : Keep G a b) (g : ∀ k, G' k → G k) : Keep G' a b := fun i hi => h i (g i hi)

theorem coverW (w : World) (F : Nat → Prop) : ∀ N, N ≤ w.heap.size → ∃ E : List (Nat × Obj), (∀ y ∈ E, w.heap[y.1]? = some y.2 ∧ F y.1) ∧ ∀ k, k < N → F k → ∃ o, (k, o) ∈ E := by
  intro N
  induction N with
  | zero => intro _; exact ⟨[], (fun y hy => by cases hy), fun k hk => absurd hk (Nat.not_lt_zero _)⟩
  | succ N ih =>
    intro hN
    obtain ⟨E, h1, h2⟩ := ih (by omega)
    by_cases q : F N
    · refine ⟨(N, w.heap[N]) :: E, fun y hy => ?_, fun k hk hF => ?_⟩
      · rcases List.mem_cons.1 hy with e | z
        · rw [e]; exact ⟨Array.getElem?_eq_getElem (by omega), q⟩
        · exact h1 y z
      · by_cases e : k = N
        · exact ⟨w.heap[N], by rw [e]; simp⟩
        · obtain ⟨o, ho⟩ := h2 k (by omega) hF
          exact ⟨o, List.mem_cons_of_mem _ ho⟩
    · exact ⟨E, h1, fun k hk hF => h2 k (by rcases Nat.lt_or_ge k N with z | z; exact z; exact absurd (by rw [show N = k by omega]; exact hF) q) hF⟩

theorem hs_same {W w w' : World} {hb hb' p g bd bd' n m : Nat} {V V' : Nat → ByteArray} {A A' : List Nat} {z z' : Prop} {E : List (Nat × Obj)} (t : Hs W w hb p g bd n m V A z E) (t' : Hs W w' hb' p g bd' n m V' A' z' E) {k : Nat} (hk : ∃ o, (k, o) ∈ E) : w'.heap[k]? = w.heap[k]? := by
  obtain ⟨o, ho⟩ := hk
  rw [t'.at ho, t.at ho]

/-- A heap with the rows H; the blocks of G are others'. -/
structure Dx (W w : World) (hb p g bd n m : Nat) (H : Hp) (G : Nat → Prop) : Prop where
  ex : ∃ V E, Hs W w hb p g bd n m V [] True E ∧ Vok n V H ∧ ∀ k, G k → ∃ o, (k, o) ∈ E
  ap : ∀ k, G k → W.heap.size ≤ k ∧ k ≠ hb

section
variable {W w w' : World} {hb p g bd n m : Nat} {H : Hp} {G G' : Nat → Prop}

theorem Dx.lt (d : Dx W w hb p g bd n m H G) {k : Nat} (hk : G k) : k < w.heap.size := by
  obtain ⟨V, E, t, _, cov⟩ := d.ex
  obtain ⟨o, ho⟩ := cov k hk
  exact lt_of_some (t.at ho)
theorem Dx.bel (d : Dx W w hb p g bd n m H G) : Below W.heap.size W w := by
  obtain ⟨V, E, t, _, cov⟩ := d.ex
  exact t.bel
theorem Dx.vok (d : Dx W w hb p g bd n m H G) : ∃ V, Vok n V H := by
  obtain ⟨V, E, t, ok, cov⟩ := d.ex
  exact ⟨V, ok⟩
theorem Dx.hbl (d : Dx W w hb p g bd n m H G) : hb < w.heap.size := by
  obtain ⟨V, E, t, ok, cov⟩ := d.ex
  exact lt_of_some t.hbAt
theorem Dx.mono {c : Nat} (d : Dx W w hb p g bd n m H G) (hc : bd ≤ c) : Dx W w hb p g c n m H G := by
  obtain ⟨V, E, t, ok, cov⟩ := d.ex
  exact ⟨⟨V, E, t.mono hc, ok, cov⟩, d.ap⟩
theorem Dx.less (d : Dx W w hb p g bd n m H G) (h : ∀ k, G' k → G k) : Dx W w hb p g bd n m H G' := by
  obtain ⟨V, E, t, ok, cov⟩ := d.ex
  exact ⟨⟨V, E, t, ok, fun k hk => cov k (h k hk)⟩, fun k hk => d.ap k (h k hk)⟩
theorem Dx.below (d : Dx W w hb p g bd n m H G) (b : Below w.heap.size w w') : Dx W w' hb p g bd n m H G := by
  obtain ⟨V, E, t, ok, cov⟩ := d.ex
  exact ⟨⟨V, E, t.below b, ok, cov⟩, d.ap⟩
theorem Dx.keep (d : Dx W w hb p g bd n m H G) (b : Below w.heap.size w w') : Keep G w w' := fun k hk => b.block k (d.lt hk)

/-- Others change their own blocks, or make new ones. -/
theorem Dx.own {F : Nat → Prop} (d : Dx W w hb p g bd n m H G) (f : Fr F w w') (hF : ∀ k, F k → G k ∨ w.heap.size ≤ k) (hG : ∀ k, G' k → (G k ∨ w.heap.size ≤ k) ∧ k < w'.heap.size) : Dx W w' hb p g bd n m H G' := by
  obtain ⟨V, E, t, ok, cov⟩ := d.ex
  have hB := t.bel.size
  have hh := d.hbl
  obtain ⟨E', h1, h2⟩ := coverW w' G' w'.heap.size (Nat.le_refl _)
  have f' : Fr (fun k => F k ∧ k < w.heap.size) w w' := ⟨f.os, f.tape, f.output, f.size, fun k hk q => f.block k hk (fun z => q ⟨z, hk⟩)⟩
  have hF' : ∀ k, (F k ∧ k < w.heap.size) → G k := fun k hk => (hF k hk.1).resolve_right (by have := hk.2; omega)
  have t' : Hs W w' hb p g bd n m V [] True E' := t.swap f' (fun k hk => ⟨(d.ap k (hF' k hk)).1, (d.ap k (hF' k hk)).2, cov k (hF' k hk)⟩) (fun y hy => by
    obtain ⟨a, b⟩ := h1 y hy
    refine ⟨a, ?_⟩
    rcases (hG y.1 b).1 with q | q
    · exact Or.inr (cov y.1 q)
    · exact Or.inl q)
  refine ⟨⟨V, E', t', ok, fun k hk => h2 k (hG k hk).2 hk⟩, fun k hk => ?_⟩
  rcases (hG k hk).1 with q | q
  · exact d.ap k q
  · exact ⟨by omega, by omega⟩
theorem Dx.alloc (d : Dx W w hb p g bd n m H G) (o : Obj) : Dx W (w.alloc o) hb p g bd n m H (fun k => G k ∨ k = w.heap.size) :=
  d.own (F := fun _ => False) (Fr.of_below (below_alloc1 w o)) (fun _ q => q.elim) (fun k hk => by
    rcases hk with q | q
    · exact ⟨Or.inl q, by have := d.lt q; simp; omega⟩
    · exact ⟨Or.inr (by omega), by simp; omega⟩)
theorem Dx.set (d : Dx W w hb p g bd n m H G) (a : Addr) (ha : G a.block) (v : Value) : Dx W (w.setCell a v) hb p g bd n m H G :=
  d.own (F := fun k => k = a.block) (Fr.set (F := fun k => k = a.block) (Fr.refl _ w) (Or.inl rfl) v) (fun _ q => Or.inl (q ▸ ha)) (fun k hk => ⟨Or.inl hk, by have := d.lt hk; simpa [World.setCell] using this⟩)

theorem keep_set {a : Addr} (h : ¬ G a.block) (v : Value) : Keep G w (w.setCell a v) := fun _ hk => Below.heap_setCell _ _ _ _ (fun e => h (e ▸ hk))
def put5 (w : World) (b : Nat) (a0 a1 a2 a3 a4 : Value) : World := ((((w.setCell ⟨b, 0, none⟩ a0).setCell ⟨b, 1, none⟩ a1).setCell ⟨b, 2, none⟩ a2).setCell ⟨b, 3, none⟩ a3).setCell ⟨b, 4, none⟩ a4
theorem Dx.set5 (d : Dx W w hb p g bd n m H G) (b : Nat) (hb' : G b) (a0 a1 a2 a3 a4 : Value) : Dx W (put5 w b a0 a1 a2 a3 a4) hb p g bd n m H G := ((((d.set ⟨b, 0, none⟩ hb' a0).set ⟨b, 1, none⟩ hb' a1).set ⟨b, 2, none⟩ hb' a2).set ⟨b, 3, none⟩ hb' a3).set ⟨b, 4, none⟩ hb' a4
theorem put5_at {b : Nat} {x0 x1 x2 x3 x4 : Value} {T : TypeId} (h : w.heap[b]? = some (.cells #[x0, x1, x2, x3, x4] T)) (a0 a1 a2 a3 a4 : Value) : (put5 w b a0 a1 a2 a3 a4).heap[b]? = some (.cells #[a0, a1, a2, a3, a4] T) := by
  have h0 := heap_setCell_same w b 0 _ T a0 h
  have h1 := heap_setCell_same _ b 1 _ T a1 h0
  have h2 := heap_setCell_same _ b 2 _ T a2 h1
  have h3 := heap_setCell_same _ b 3 _ T a3 h2
  have h4 := heap_setCell_same _ b 4 _ T a4 h3
  exact h4
theorem keep_set5 (b : Nat) (h : ¬ G b) (a0 a1 a2 a3 a4 : Value) : Keep G w (put5 w b a0 a1 a2 a3 a4) :=
  ((((keep_set (a := ⟨b, 0, none⟩) h a0).trans (keep_set (a := ⟨b, 1, none⟩) h a1)).trans (keep_set (a := ⟨b, 2, none⟩) h a2)).trans (keep_set (a := ⟨b, 3, none⟩) h a3)).trans (keep_set (a := ⟨b, 4, none⟩) h a4)

/-- A row in the lowest page that takes it; or no page does. -/
structure Ins (W w' : World) (hb p g bd n m : Nat) (H : Hp) (G : Nat → Prop) (row : ByteArray) (K X : Int) : Prop where
  out : (X = 0 ∧ 128 ≤ K ∧ K < 128000 ∧ (∀ r, (K, r) ∉ ent n H) ∧ ∃ H', (ent n H').Perm ((K, row) :: ent n H) ∧ Dx W w' hb p g bd n m H' G) ∨ (X = 50 ∧ n - 1 ≤ (ent n H).length ∧ Dx W w' hb p g bd n m H G)
theorem Dx.insert (d : Dx W w hb p g bd n m H G) (hbd : bd ≤ 5000000) (hm : 2 ≤ m) (row : ByteArray) (hrs : row.size ≤ 400) :
    Calls Tryz.prog 62 #[.pointer (some ⟨hb, 0, none⟩), .string row] w fun e w' => ∃ K X, e = .returned (.tuple #[.int .i64 K, .int .i64 X]) ∧ Ins W w' hb p g (bd + 6 * n + 10) n m H G row K X ∧ Keep G w w' := by
  obtain ⟨V, E, t, ok, cov⟩ := d.ex
  refine (insert_any t hbd hm ok row (by omega)).mono ?_
  rintro e w' ⟨K, X, rfl, ⟨q⟩⟩
  rcases q with ⟨_, _, nz, _⟩ | ⟨rfl, rfl, V', ok', t'⟩
  · exact absurd trivial nz
  refine ⟨_, _, rfl, ⟨?_⟩, fun k hk => hs_same t t' (cov k hk)⟩
  cases hl : lowP n H row with
  | some i =>
    obtain ⟨a, b, c, c', f⟩ := ent_ins ok ok' hrs hl
    exact Or.inl ⟨b, c, c', a, _, f, ⟨V', E, t', ok', cov⟩, d.ap⟩
  | none =>
    have eX : insHX n H row = 50 := by unfold insHX; rw [if_neg (by omega), hl]
    have eH : insHH n H row = H := by unfold insHH; rw [if_neg (by omega), hl]
    rw [eH] at ok'
    exact Or.inr ⟨eX, ent_full ok hrs hl, ⟨V', E, t', ok', cov⟩, d.ap⟩
theorem Dx.delete (d : Dx W w hb p g bd n m H G) (hbd : bd ≤ 6000000) (hm : 2 ≤ m) (k : Int) (r : ByteArray) (hk : (k, r) ∈ ent n H) :
    Calls Tryz.prog 61 #[.pointer (some ⟨hb, 0, none⟩), .int .i64 k] w fun e w' => e = .returned (.int .i64 0) ∧ (∃ H', (ent n H).Perm ((k, r) :: ent n H') ∧ Dx W w' hb p g (bd + 9) n m H' G) ∧ Keep G w w' := by
  obtain ⟨V, E, t, ok, cov⟩ := d.ex
  refine (delete_any t hbd hm ok k).mono ?_
  rintro e w' ⟨Y, rfl, ⟨q⟩⟩
  rcases q with ⟨_, nz, _⟩ | ⟨rfl, V', ok', t'⟩
  · exact absurd trivial nz
  exact ⟨by rw [(ent_get ok hk).2.1], ⟨_, ent_del ok ok' hk, ⟨V', E, t', ok', cov⟩, d.ap⟩, fun k hk => hs_same t t' (cov k hk)⟩
theorem Dx.get (d : Dx W w hb p g bd n m H G) (hbd : bd ≤ 6000000) (hm : 1 ≤ m) (k : Int) (r : ByteArray) (hk : (k, r) ∈ ent n H) :
    Calls Tryz.prog 81 #[.pointer (some ⟨hb, 0, none⟩), .int .i64 k] w fun e w' => e = .returned (.tuple #[.string r, .int .i64 0]) ∧ Dx W w' hb p g (bd + 3) n m H G ∧ Keep G w w' := by
  obtain ⟨V, E, t, ok, cov⟩ := d.ex
  have c := get_heap t hbd hm ok trivial k
  rw [(ent_get ok hk).1, (ent_get ok hk).2.1] at c
  refine c.mono ?_
  rintro e w' ⟨rfl, t'⟩
  exact ⟨rfl, ⟨⟨V, E, t', ok, cov⟩, d.ap⟩, fun k hk => hs_same t t' (cov k hk)⟩
theorem Dx.told {v : Value} {L : List Int} {bd' : Nat} {V : Nat → ByteArray} {E : List (Nat × Obj)} (d : Dx W w hb p g bd n m H G) (t : Hs W w hb p g bd n m V [] True E) (ok : Vok n V H) (cov : ∀ k, G k → ∃ o, (k, o) ∈ E) (q : Told W w' hb p g bd' n m V True E v L) :
    IRow w' W.heap.size v L ∧ (∀ k, v.ownBlock = some k → ¬ G k) ∧ Dx W w' hb p g bd' n m H (fun k => G k ∨ v.ownBlock = some k) ∧ Keep G w w' := by
  refine ⟨q.row, fun k hk hg => ?_, ⟨⟨V, _, q.hs, ok, fun k hk => ?_⟩, fun k hk => ?_⟩, fun k hk => hs_same t q.base (cov k hk)⟩
  · obtain ⟨o, ho⟩ := cov k hg
    exact (q.off k hk).2 _ ho rfl
  · rcases hk with z | z
    · obtain ⟨o, ho⟩ := cov k z
      exact ⟨o, List.mem_append_right _ ho⟩
    · obtain ⟨o, ho⟩ := evOf_mem z (q.row.blk z).2
      exact ⟨o, List.mem_append_left _ ho⟩
  · rcases hk with z | z
    · exact d.ap k z
    · exact ⟨(q.row.blk z).1, (q.off k z).1⟩
theorem Dx.places (d : Dx W w hb p g bd n m H G) (hbd : bd ≤ 6000000) (hm : 1 ≤ m) (hn : n ≤ 500) :
    Calls Tryz.prog 31 #[.pointer (some ⟨hb, 0, none⟩)] w fun e w' => ∃ v, e = .returned (.tuple #[v, .int .i64 0]) ∧ IRow w' W.heap.size v (placesN n H) ∧ (∀ k, v.ownBlock = some k → ¬ G k) ∧ Dx W w' hb p g (bd + 3 * n + 6) n m H (fun k => G k ∨ v.ownBlock = some k) ∧ Keep G w w' := by
  obtain ⟨V, E, t, ok, cov⟩ := d.ex
  refine (places_any t hbd hm ok hn trivial).mono ?_
  rintro e w' ⟨v, rfl, q⟩
  exact ⟨v, rfl, d.told t ok cov q⟩
theorem Dx.pages (d : Dx W w hb p g bd n m H G) (hbd : bd ≤ 6000000) (hm : 1 ≤ m) :
    Calls Tryz.prog 32 #[.pointer (some ⟨hb, 0, none⟩)] w fun e w' => ∃ v, e = .returned (.tuple #[v, .int .i64 0]) ∧ IRow w' W.heap.size v (pagesN n H) ∧ (∀ k, v.ownBlock = some k → ¬ G k) ∧ Dx W w' hb p g (bd + 3) n m H (fun k => G k ∨ v.ownBlock = some k) ∧ Keep G w w' := by
  obtain ⟨V, E, t, ok, cov⟩ := d.ex
  refine (pages_any t hbd hm ok trivial).mono ?_
  rintro e w' ⟨v, rfl, q⟩
  exact ⟨v, rfl, d.told t ok cov q⟩
theorem Dx.evict (d : Dx W w hb p g bd n m H G) (hbd : bd ≤ 8000000) (k : Int) (hk : i64B k) :
    Calls Tryz.prog 17 #[.pointer (some ⟨p, 0, none⟩), .int .i64 k] w fun e w' => ∃ X, e = .returned (.int .i64 X) ∧ Dx W w' hb p g (bd + 1) n m H G ∧ Keep G w w' := by
  obtain ⟨V, E, t, ok, cov⟩ := d.ex
  refine (t.evict hbd k hk.1 hk.2).mono ?_
  rintro e w' ⟨X, rfl, t'⟩
  exact ⟨X, rfl, ⟨⟨V, E, t', ok, cov⟩, d.ap⟩, fun k hk => hs_same t t' (cov k hk)⟩

set_option maxHeartbeats 800000 in
set_option maxRecDepth 100000 in
/-- read: the piece that stands at a place. -/
theorem Dx.read (d : Dx W w hb p g bd n m H G) (hbd : bd ≤ 6000000) (hm : 1 ≤ m) (k : Int) (q : Pc) (ok : q.Ok) (hk : (k, pb q) ∈ ent n H) :
    Calls Tryz.prog 55 #[.pointer (some ⟨hb, 0, none⟩), .int .i64 k] w fun e w' => e = .returned (.tuple #[q.val, .int .i64 0]) ∧ Dx W w' hb p g (bd + 3) n m H G ∧ Keep G w w' := by
  have b0 := below_alloc1 w (.cells #[.int .i64 0, .int .i64 0, .int .i64 0, .int .u32 0, .string ⟨#[]⟩] 126)
  have d0 := (d.less (G' := G) (fun _ h => h)).alloc (.cells #[.int .i64 0, .int .i64 0, .int .i64 0, .int .u32 0, .string ⟨#[]⟩] 126)
  have cG := d0.get hbd hm k (pb q) hk
  have hw0 := heap_alloc_new w (.cells #[.int .i64 0, .int .i64 0, .int .i64 0, .int .u32 0, .string ⟨#[]⟩] 126)
  have HK := (show Hid _ from d.keep b0)
  clear hk d0 b0
  go_enter Tryz.func55, Tryz.ntmps55
  go_wp2_with fail
  generalize w.alloc (.cells #[.int .i64 0, .int .i64 0, .int .i64 0, .int .u32 0, .string ⟨#[]⟩] 126) = w0 at *
  refine cG.mono ?_
  rintro e w1 ⟨rfl, d1, k1⟩
  have cP := parse_any q ok w1
  have hw1 := (k1 w.heap.size (Or.inr rfl)).trans hw0
  clear cG hw0
  go_wp2_with fail
  refine cP.mono ?_
  rintro e w2 ⟨rfl, b2⟩
  clear cP
  have hlt : w.heap.size < w1.heap.size := lt_of_some hw1
  have hw2 := (b2.block _ hlt).trans hw1
  have r0 : w2.cell? ⟨w.heap.size, 0, none⟩ = some (.int .i64 0) := cell_in hw2 0 _ rfl
  have r1 : w2.cell? ⟨w.heap.size, 1, none⟩ = some (.int .i64 0) := cell_in hw2 1 _ rfl
  have r2 : w2.cell? ⟨w.heap.size, 2, none⟩ = some (.int .i64 0) := cell_in hw2 2 _ rfl
  have r3 : w2.cell? ⟨w.heap.size, 3, none⟩ = some (.int .u32 0) := cell_in hw2 3 _ rfl
  have r4 : w2.cell? ⟨w.heap.size, 4, none⟩ = some (.string ⟨#[]⟩) := cell_in hw2 4 _ rfl
  have z0 := free_in hw2 0
  have z1 := free_in hw2 1
  have z2 := free_in hw2 2
  have z3 := free_in hw2 3
  have z4 := free_in hw2 4
  have nG : ¬ G w.heap.size := fun q => by have := d.lt q; omega
  have d2 := d1.below b2
  have d25 := d2.set5 w.heap.size (Or.inr rfl) (.int .i64 (q.id : Int)) (.int .i64 (q.no : Int)) (.int .i64 (q.size : Int)) (.int .u32 (q.sum : Int)) (.string q.part)
  have k25 : Keep G w2 (put5 w2 w.heap.size (.int .i64 (q.id : Int)) (.int .i64 (q.no : Int)) (.int .i64 (q.size : Int)) (.int .u32 (q.sum : Int)) (.string q.part)) := keep_set5 w.heap.size nG (.int .i64 (q.id : Int)) (.int .i64 (q.no : Int)) (.int .i64 (q.size : Int)) (.int .u32 (q.sum : Int)) (.string q.part)
  have d3 := (d25.alloc (pcObj q)).less (G' := G) (fun k hk => Or.inl (Or.inl hk))
  have k3 := (((Keep.trans (show Keep G w w0 from HK.out) (k1.less (fun k hk => Or.inl hk))).trans ((d1.keep b2).less (fun k hk => Or.inl hk))).trans k25).trans ((d25.keep (below_alloc1 _ (pcObj q))).less (fun k hk => Or.inl hk))
  have hX := (Below.heap_alloc _ (pcObj q) _ (lt_of_some (put5_at hw2 (.int .i64 (q.id : Int)) (.int .i64 (q.no : Int)) (.int .i64 (q.size : Int)) (.int .u32 (q.sum : Int)) (.string q.part)))).trans (put5_at hw2 (.int .i64 (q.id : Int)) (.int .i64 (q.no : Int)) (.int .i64 (q.size : Int)) (.int .u32 (q.sum : Int)) (.string q.part))
  have c0 := cell_in hX 0 (.int .i64 (q.id : Int)) rfl
  have c1 := cell_in hX 1 (.int .i64 (q.no : Int)) rfl
  have c2 := cell_in hX 2 (.int .i64 (q.size : Int)) rfl
  have c3 := cell_in hX 3 (.int .u32 (q.sum : Int)) rfl
  have c4 := cell_in hX 4 (.string q.part) rfl
  unfold put5 pcObj at c0 c1 c2 c3 c4
  have C0 := (show Hid _ from c0)
  have C1 := (show Hid _ from c1)
  have C2 := (show Hid _ from c2)
  have C3 := (show Hid _ from c3)
  have C4 := (show Hid _ from c4)
  have HD := (show Hid _ from And.intro d3 k3)
  have hlt2 : w.heap.size < w2.heap.size := lt_of_some hw2
  unfold Pc.val
  clear hw1 hw2 hX c0 c1 c2 c3 c4 d1 d2 d3 d25 k25 k1 k3 HK b2 d
  go_wp2_with fail
  exact bodyPost_ret (v := .tuple #[q.val, .int .i64 0]) (by simp [results, Tryz.results55, go_sem, Pc.val, C0.out, C1.out, C2.out, C3.out, C4.out]) rfl ⟨rfl, HD.out⟩
end

end Go.Proofs.YtkjioabhdglkpaaGreat
end

section
namespace Go.Proofs.YtkjioabhdglkpaaGreat
open Go.RowKit

def robj (hb mb : Nat) (wv : Value) : Obj := .cells #[.pointer (some ⟨hb, 0, none⟩), .map (some mb), wv] 73

/-- Numbers that stand in a block of G. -/
def IntsAt (w : World) (G : Nat → Prop) (v : Value) (L : List Int) : Prop :=
  (∃ a c, v = .slice a 0 c ∧ L = []) ∨ ∃ b off c, v = .slice (some ⟨b, off, none⟩) L.length c ∧ L.length ≤ c ∧ G b ∧ b < w.heap.size ∧ ∀ i x, L[i]? = some x → w.cell? ⟨b, off + i, none⟩ = some (.int .i64 x)

section
variable {W w w' : World} {hb p g bd n m rb mb : Nat} {H : Hp} {G G' : Nat → Prop} {v : Value} {L : List Int}

theorem IntsAt.kept (h : IntsAt w G v L) (k : Keep G w w') : IntsAt w' G v L := by
  rcases h with h | ⟨b, off, c, e, h1, h2, h3, h4⟩
  · exact Or.inl h
  · have hh := k b h2
    refine Or.inr ⟨b, off, c, e, h1, h2, ?_, fun i x hx => ?_⟩
    · have : w'.heap[b]? = some w.heap[b] := by rw [hh]; exact Array.getElem?_eq_getElem h3
      exact (Array.getElem?_eq_some_iff.1 this).1
    · have := h4 i x hx
      rw [World.cell?_of_block (w := w) hh]
      exact this
theorem IntsAt.more (h : IntsAt w G v L) (k : ∀ j, G j → G' j) : IntsAt w G' v L := by
  rcases h with h | ⟨b, off, c, e, h1, h2, h3, h4⟩
  · exact Or.inl h
  · exact Or.inr ⟨b, off, c, e, h1, k b h2, h3, h4⟩
theorem IRow.ints {B : Nat} (h : IRow w B v L) (hG : ∀ k, v.ownBlock = some k → G k) : IntsAt w G v L := by
  cases hL : L with
  | nil =>
    obtain ⟨a, c, e, _, _⟩ := h.len
    rw [hL] at e
    exact Or.inl ⟨a, c, e, rfl⟩
  | cons x l =>
    have h0 : L[0]? = some x := by rw [hL]; rfl
    obtain ⟨b, c, e, h1, h2, h3, _⟩ := h.cell h0
    refine Or.inr ⟨b, 0, c, by rw [e, hL], by rw [← hL]; exact h1, hG b (by rw [e]; rfl), h3, fun i y hy => ?_⟩
    rw [← hL] at hy
    obtain ⟨b', c', e', _, _, _, h4⟩ := h.cell hy
    rw [e] at e'
    injection e' with e1
    injection e1 with e1
    injection e1 with e1
    subst e1
    rw [Nat.zero_add]
    exact h4

theorem rcells {wv : Value} (h : w.heap[rb]? = some (robj hb mb wv)) : w.cell? ⟨rb, 0, none⟩ = some (.pointer (some ⟨hb, 0, none⟩)) ∧ w.cell? ⟨rb, 1, none⟩ = some (.map (some mb)) ∧ w.cell? ⟨rb, 2, none⟩ = some wv ∧ w.frozen? ⟨rb, 2, none⟩ = false :=
  ⟨cell_in h 0 _ rfl, cell_in h 1 _ rfl, cell_in h 2 _ rfl, free_in h 2⟩
theorem rset {wv : Value} (h : w.heap[rb]? = some (robj hb mb wv)) (x : Value) : (w.setCell ⟨rb, 2, none⟩ x).heap[rb]? = some (robj hb mb x) := heap_setCell_same w rb 2 _ _ x h

def wLen (w : World) (rb : Nat) : Nat := match w.cell? ⟨rb, 2, none⟩ with | some (.slice _ n _) => n | _ => 0

/-- Waste is taken away. -/
structure Swept (W w w' : World) (hb p g bd n m rb mb : Nat) (ex : List (Int × ByteArray)) (G : Nat → Prop) : Prop where
  ex : ∃ H' wa c, Dx W w' hb p g bd n m H' G ∧ w'.heap[rb]? = some (robj hb mb (.slice wa 0 c)) ∧ (ent n H').Perm ex ∧ Keep (fun k => G k ∧ k ≠ rb) w w'
/-- A row of a heap is taken away. -/
structure Gone (W w w' : World) (hb p g bd n m : Nat) (H : Hp) (G : Nat → Prop) (k : Int) (r : ByteArray) : Prop where
  ex : (∃ H', (ent n H).Perm ((k, r) :: ent n H') ∧ Dx W w' hb p g bd n m H' G) ∧ Keep G w w'

set_option maxHeartbeats 1600000 in
set_option maxRecDepth 100000 in
theorem sweep_any {M ex : List (Int × ByteArray)} {wv : Value} (d : Dx W w hb p g bd n m H G) (hbd : bd + 9 * M.length ≤ 6000000) (hm : 2 ≤ m) (hg : G rb) (hr : w.heap[rb]? = some (robj hb mb wv)) (hI : IntsAt w (fun k => G k ∧ k ≠ rb) wv (M.map Prod.fst)) (hp : (ent n H).Perm (M ++ ex)) :
    Calls Tryz.prog 33 #[.pointer (some ⟨rb, 0, none⟩)] w fun e w' => e = .returned (.int .i64 0) ∧ Swept W w w' hb p g (bd + 9 * M.length) n m rb mb ex G := by
  go_enter Tryz.func33, Tryz.ntmps33
  go_wp2_with fail
  go_loopw [4] (fun _ wr => ∃ (M' : List (Int × ByteArray)) (wv' : Value) (H' : Hp) (bd' : Nat), bd' + 9 * M'.length ≤ bd + 9 * M.length ∧ Hid (Dx W wr hb p g bd' n m H' G) ∧ wr.heap[rb]? = some (robj hb mb wv') ∧ Hid (IntsAt wr (fun k => G k ∧ k ≠ rb) wv' (M'.map Prod.fst)) ∧ Hid ((ent n H').Perm (M' ++ ex)) ∧ Hid (Keep (fun k => G k ∧ k ≠ rb) w wr)) (fun _ wr => wLen wr rb)
  case atStart => exact ⟨M, wv, H, bd, Nat.le_refl _, d, hr, hI, hp, Keep.refl _ _⟩
  case round =>
    clear d hr hI hp
    obtain ⟨M', wv', H', bd', hb1, d1, hr1, hI1, hp1, hk1⟩ := hrel
    obtain ⟨c0, c1, c2, f2⟩ := rcells hr1
    cases M' with
    | nil =>
      rcases hI1.out with ⟨a, c, rfl, _⟩ | ⟨b, off, c, rfl, _⟩
      · go_wp2_with fail
        go_ret
        exact ⟨rfl, ⟨H', a, c, d1.out.mono (by simp at hb1; omega), hr1, by simpa using hp1.out, hk1.out⟩⟩
      · simp only [List.map_nil, List.length_nil] at c2 hr1
        go_wp2_with fail
        go_ret
        exact ⟨rfl, ⟨H', _, c, d1.out.mono (by simp at hb1; omega), hr1, by simpa using hp1.out, hk1.out⟩⟩
    | cons y M2 =>
      obtain ⟨k, r⟩ := y
      rcases hI1.out with ⟨a, c, rfl, e⟩ | ⟨b, off, c, rfl, hlc, hGb, hlb, hcell⟩
      · cases e
      simp only [List.map_cons, List.length_cons, List.length_map] at c2 hr1 hlc hb1
      have q0 : wr.cell? ⟨b, off, none⟩ = some (.int .i64 k) := hcell 0 k rfl
      have cD := (d1.out.below (w' := wr.drew) (below_drew wr)).delete (by omega) hm k r (by
        refine (hp1.out).mem_iff.2 ?_
        simp)
      have HC : Hid (∀ i x, (M2.map Prod.fst)[i]? = some x → wr.cell? ⟨b, off + 1 + i, none⟩ = some (.int .i64 x)) := fun i x hx => by
        have := hcell (i + 1) x (by simpa using hx)
        rw [Nat.add_assoc, Nat.add_comm 1 i]
        exact this
      have hpos : (0 : Int) < ((M2.length + 1 : Nat) : Int) := by omega
      clear hcell
      generalize hz : M2.length + 1 = z at *
      have hdr : Keep G wr wr.drew := fun _ _ => rfl
      have HR := (show Hid _ from hr1)
      have HB := (show Hid _ from hlb)
      go_wp2_with fail
      apply wp_end (R := fun V => Gone W wr V hb p g (bd' + 9) n m H' G k r)
      case h =>
        go_region_held3 (fun V => V.cell? ⟨rb, 0, none⟩ = some (.pointer (some ⟨hb, 0, none⟩)) ∧ V.cell? ⟨rb, 2, none⟩ = some (.slice (some ⟨b, off, none⟩) z c) ∧ V.cell? ⟨b, off, none⟩ = some (.int .i64 k)) (first | exact hB | exact ⟨c0, c2, q0⟩ | go_keep)
          (first
            | (go_at_call 61; refine cD.mono ?_; rintro e w3 ⟨rfl, e3, k3⟩; have hB := (⟨(World.cell?_of_block (w := wr) (k3 rb hg)).trans c0, (World.cell?_of_block (w := wr) (k3 rb hg)).trans c2, (World.cell?_of_block (w := wr) (k3 b hGb.1)).trans q0⟩ : _ ∧ _ ∧ _)))
        all_goals exact EndQ.mk ⟨e3, k3⟩
      rintro V ⟨⟨H2, hp2, d2⟩, k2⟩
      have hr2 := (k2 rb hg).trans HR.out
      obtain ⟨v0, v1, v2, g2⟩ := rcells hr2
      have hp3 : (ent n H2).Perm (M2.map id ++ ex) := by
        have h1 := hp2.symm.trans hp1.out
        rw [List.map_id]
        exact List.Perm.cons_inv h1
      rw [List.map_id] at hp3
      have hlV : b < V.heap.size := lt_of_some ((k2 b hGb.1).trans (Array.getElem?_eq_getElem HB.out))
      have hI2 : IntsAt (V.setCell ⟨rb, 2, none⟩ (.slice (if c = 1 then some ⟨b, off, none⟩ else some ⟨b, off + 1, none⟩) M2.length (c - 1))) (fun k => G k ∧ k ≠ rb) (.slice (if c = 1 then some ⟨b, off, none⟩ else some ⟨b, off + 1, none⟩) M2.length (c - 1)) (M2.map Prod.fst) := by
        by_cases hc1 : c = 1
        · have e0 : M2 = [] := List.eq_nil_of_length_eq_zero (by omega)
          exact Or.inl ⟨_, c - 1, by rw [e0]; rfl, by rw [e0]; rfl⟩
        · rw [if_neg hc1]
          refine Or.inr ⟨b, off + 1, c - 1, by simp, by simp; omega, hGb, by simpa [World.setCell] using hlV, fun i x hx => ?_⟩
          rw [World.cell?_setCell_far _ ⟨rb, 2, none⟩ ⟨b, _, none⟩ _ (Ne.symm hGb.2)]
          exact (World.cell?_of_block (w := wr) (k2 b hGb.1)).trans (HC.out i x hx)
      have hk2 : Keep (fun k => G k ∧ k ≠ rb) w (V.setCell ⟨rb, 2, none⟩ (.slice (if c = 1 then some ⟨b, off, none⟩ else some ⟨b, off + 1, none⟩) M2.length (c - 1))) := (Keep.trans hk1.out (k2.less (fun _ q => q.1))).trans (keep_set (a := ⟨rb, 2, none⟩) (fun q => q.2 rfl) _)
      have d3 := d2.set ⟨rb, 2, none⟩ hg (.slice (if c = 1 then some ⟨b, off, none⟩ else some ⟨b, off + 1, none⟩) M2.length (c - 1))
      have hr3 := rset hr2 (.slice (if c = 1 then some ⟨b, off, none⟩ else some ⟨b, off + 1, none⟩) M2.length (c - 1))
      have m1 : wLen wr rb = z := by unfold wLen; rw [c2]
      have m2 : wLen (V.setCell ⟨rb, 2, none⟩ (.slice (if c = 1 then some ⟨b, off, none⟩ else some ⟨b, off + 1, none⟩) M2.length (c - 1))) rb = M2.length := by unfold wLen; rw [(rcells hr3).2.2.1]
      have HM := (show Hid _ from And.intro m1 m2)
      have HX := (show Hid _ from And.intro d3 (And.intro hr3 (And.intro hI2 (And.intro hp3 hk2))))
      have hz1 : z - 1 = M2.length := by omega
      clear m1 m2 d2 d3 hr2 hr3 hI2 hp3 hk2 hp2 cD c0 c1 c2 f2 q0 hr1 hlb
      go_wp2_with fail
      go_roundw
      case rel => exact ⟨M2, _, H2, bd' + 9, by omega, HX.out.1, HX.out.2.1, HX.out.2.2.1, HX.out.2.2.2.1, HX.out.2.2.2.2⟩
      case measure => rw [HM.out.1, HM.out.2]; omega
end
end Go.Proofs.YtkjioabhdglkpaaGreat
end

section
namespace Go.Proofs.YtkjioabhdglkpaaGreat
open Go.RowKit

section
variable {W w w' : World} {hb p g bd n m rb mb : Nat} {H : Hp} {G G' : Nat → Prop} {v : Value} {L : List Int}

theorem drew_belowW {w w1 : World} (h : Below w.drew.heap.size w.drew w1) : Below w.heap.size w w1 := ⟨h.os, h.tape, h.output, h.size, h.block⟩

/-- A row's first piece is gone, the others are waste. -/
structure Retd (W w w' : World) (hb p g bd n m rb mb : Nat) (M ex : List (Int × ByteArray)) (G Gi : Nat → Prop) : Prop where
  ex : ∃ H' wv', Dx W w' hb p g bd n m H' G ∧ w'.heap[rb]? = some (robj hb mb wv') ∧ IntsAt w' Gi wv' (M.map Prod.fst) ∧ (ent n H').Perm (M ++ ex) ∧ Keep (fun k => G k ∧ k ≠ rb) w w'

set_option maxHeartbeats 1600000 in
set_option maxRecDepth 100000 in
theorem retire_any {Gi : Nat → Prop} (hGi : ∀ k, Gi k → G k ∧ k ≠ rb) {M ex : List (Int × ByteArray)} {wv : Value} {k : Int} {r : ByteArray} (d : Dx W w hb p g bd n m H G) (hbd : bd ≤ 6000000) (hm : 2 ≤ m) (hg : G rb) (hr : w.heap[rb]? = some (robj hb mb wv)) (hI : IntsAt w Gi v (((k, r) :: M).map Prod.fst)) (hp : (ent n H).Perm (((k, r) :: M) ++ ex)) :
    Calls Tryz.prog 36 #[.pointer (some ⟨rb, 0, none⟩), v] w fun e w' => e = .returned (.int .i64 0) ∧ Retd W w w' hb p g (bd + 9) n m rb mb M ex G Gi := by
  obtain ⟨c0, c1, c2, f2⟩ := rcells hr
  rcases hI with ⟨a, c, rfl, e⟩ | ⟨b, off, c, rfl, hlc, hGb, hlb, hcell⟩
  · cases e
  simp only [List.map_cons, List.length_cons, List.length_map] at hlc
  have hGc := hGi b hGb
  have q0 : w.cell? ⟨b, off, none⟩ = some (.int .i64 k) := hcell 0 k rfl
  have cD := (d.below (w' := w.drew) (below_drew w)).delete hbd hm k r (by
    refine hp.mem_iff.2 ?_
    simp)
  have HC : Hid (∀ i x, (M.map Prod.fst)[i]? = some x → w.cell? ⟨b, off + 1 + i, none⟩ = some (.int .i64 x)) := fun i x hx => by
    have := hcell (i + 1) x (by simpa using hx)
    rw [Nat.add_assoc, Nat.add_comm 1 i]
    exact this
  have HR := (show Hid _ from hr)
  have HB := (show Hid _ from hlb)
  have HP := (show Hid _ from hp)
  have hlen : (((k, r) :: M).map Prod.fst).length = M.length + 1 := by simp
  rw [hlen]
  clear hcell hr hlb hp d c1 hlen
  generalize hz : M.length + 1 = z at *
  have hpos : (0 : Int) < (z : Int) := by omega
  have hpos2 : 0 < z := by omega
  go_enter Tryz.func36, Tryz.ntmps36
  go_wp2_with fail
  apply wp_end (R := fun V => Gone W w V hb p g (bd + 9) n m H G k r)
  case h =>
    go_region_held3 (fun V => V.cell? ⟨rb, 0, none⟩ = some (.pointer (some ⟨hb, 0, none⟩)) ∧ V.cell? ⟨b, off, none⟩ = some (.int .i64 k)) (first | exact hB | exact ⟨c0, q0⟩ | go_keep)
      (first
        | (go_at_call 61; refine cD.mono ?_; rintro e w3 ⟨rfl, e3, k3⟩; have hB := (⟨(World.cell?_of_block (w := w) (k3 rb hg)).trans c0, (World.cell?_of_block (w := w) (k3 b hGc.1)).trans q0⟩ : _ ∧ _)))
    all_goals exact EndQ.mk ⟨e3, k3⟩
  rintro V ⟨⟨H2, hp2, d2⟩, k2⟩
  have hr2 := (k2 rb hg).trans HR.out
  obtain ⟨v0, v1, v2, g2⟩ := rcells hr2
  have hp3 : (ent n H2).Perm (M ++ ex) := by
    have h1 := hp2.symm.trans HP.out
    exact List.Perm.cons_inv h1
  have hlV : b < V.heap.size := lt_of_some ((k2 b hGc.1).trans (Array.getElem?_eq_getElem HB.out))
  have hI2 : IntsAt (V.setCell ⟨rb, 2, none⟩ (.slice (if c = 1 then some ⟨b, off, none⟩ else some ⟨b, off + 1, none⟩) M.length (c - 1))) Gi (.slice (if c = 1 then some ⟨b, off, none⟩ else some ⟨b, off + 1, none⟩) M.length (c - 1)) (M.map Prod.fst) := by
    by_cases hc1 : c = 1
    · have e0 : M = [] := List.eq_nil_of_length_eq_zero (by omega)
      exact Or.inl ⟨_, c - 1, by rw [e0]; rfl, by rw [e0]; rfl⟩
    · rw [if_neg hc1]
      refine Or.inr ⟨b, off + 1, c - 1, by simp, by simp; omega, hGb, by simpa [World.setCell] using hlV, fun i x hx => ?_⟩
      rw [World.cell?_setCell_far _ ⟨rb, 2, none⟩ ⟨b, _, none⟩ _ (Ne.symm hGc.2)]
      exact (World.cell?_of_block (w := w) (k2 b hGc.1)).trans (HC.out i x hx)
  have hk2 : Keep (fun k => G k ∧ k ≠ rb) w (V.setCell ⟨rb, 2, none⟩ (.slice (if c = 1 then some ⟨b, off, none⟩ else some ⟨b, off + 1, none⟩) M.length (c - 1))) := (k2.less (fun _ q => q.1)).trans (keep_set (a := ⟨rb, 2, none⟩) (fun q => q.2 rfl) _)
  have d3 := d2.set ⟨rb, 2, none⟩ hg (.slice (if c = 1 then some ⟨b, off, none⟩ else some ⟨b, off + 1, none⟩) M.length (c - 1))
  have hr3 := rset hr2 (.slice (if c = 1 then some ⟨b, off, none⟩ else some ⟨b, off + 1, none⟩) M.length (c - 1))
  have HX : Hid (Retd W w _ hb p g (bd + 9) n m rb mb M ex G Gi) := ⟨_, _, d3, hr3, hI2, hp3, hk2⟩
  have hz1 : z - 1 = M.length := by omega
  clear d3 hr3 hI2 hk2 d2 hr2 hp3 hp2 cD c0 c2 f2 q0
  by_cases hc1 : c = 1
  · subst hc1
    rw [if_pos rfl] at HX
    go_wp2_with fail
    go_ret
    exact ⟨rfl, HX.out⟩
  · rw [if_neg hc1] at HX
    go_wp2_with fail
    go_ret
    exact ⟨rfl, HX.out⟩

/-- Pieces were put into the heap, all, or up to the first one that it did not take. -/
structure Inst9 (W w w' : World) (hb p g bd n m : Nat) (H : Hp) (G : Nat → Prop) (l : List Pc) (v : Value) (X : Int) : Prop where
  ex : ∃ (M : List (Int × ByteArray)) (H' : Hp), M.map Prod.snd = (l.take M.length).map pb ∧ IRow w' W.heap.size v (M.map Prod.fst) ∧ (∀ k, v.ownBlock = some k → ¬ G k) ∧ Dx W w' hb p g bd n m H' (fun k => G k ∨ v.ownBlock = some k) ∧ (ent n H').Perm (M ++ ent n H) ∧ Keep G w w' ∧ ((X = 0 ∧ M.length = l.length) ∨ (X = 50 ∧ M.length < l.length ∧ n - 1 ≤ (ent n H').length))

set_option maxHeartbeats 3200000 in
set_option maxRecDepth 100000 in
theorem rins_any {l : List Pc} {A : Nat} {wv : Value} (d : Dx W w hb p g bd n m H G) (hbd : bd + l.length * (6 * n + 10) ≤ 5000000) (hm : 2 ≤ m) (hg : G rb) (hr : w.heap[rb]? = some (robj hb mb wv)) (hP : PRow w A v l) (hPG : ∀ k, v.ownBlock = some k → G k) (hok : ∀ q ∈ l, q.Ok) (hll : l.length ≤ 1000) :
    Calls Tryz.prog 34 #[.pointer (some ⟨rb, 0, none⟩), v] w fun e w' => ∃ vp X, e = .returned (.tuple #[vp, .int .i64 X]) ∧ Inst9 W w w' hb p g (bd + l.length * (6 * n + 10)) n m H G l vp X := by
  obtain ⟨va, vc, rfl, _, _⟩ := hP.len
  have HD := (show Hid _ from d)
  have HR := (show Hid _ from hr)
  have HP := (show Hid _ from hP)
  have HO := (show Hid _ from hok)
  have hB0 := d.bel.size
  clear hok hr
  go_enter Tryz.func34, Tryz.ntmps34
  go_wp2_with fail
  go_step3
  go_wp2_with fail
  go_step3
  go_wp2_with fail
  go_loopw [4, 5, 12] (fun sv sx sk wr => ∃ (k : Nat) (M : List (Int × ByteArray)) (H' : Hp), k ≤ l.length ∧ sk = .int .i64 (k : Int) ∧ sx = .int .i64 0 ∧ M.length = k ∧ Hid (M.map Prod.snd = (l.take k).map pb) ∧ IRow wr W.heap.size sv (M.map Prod.fst) ∧ Hid (∀ j, sv.ownBlock = some j → ¬ G j) ∧ Dx W wr hb p g (bd + k * (6 * n + 10)) n m H' (fun k => G k ∨ sv.ownBlock = some k) ∧ Hid ((ent n H').Perm (M ++ ent n H)) ∧ Hid (Keep G w wr)) (fun _ _ sk _ => l.length - (Go.RowKit.intOf sk).toNat)
  case atStart => exact ⟨0, [], H, Nat.zero_le _, rfl, rfl, rfl, rfl, irow_nil _ _, fun j e => by simp [Value.ownBlock] at e, by simpa [Value.ownBlock] using d, List.Perm.refl _, Keep.refl _ _⟩
  case round =>
    clear d hP
    obtain ⟨k, M, H', hk, rfl, rfl, hMk, hM, hrow, hoff, d1, hp1, hk1⟩ := hrel
    have hml : (M.map Prod.fst).length ≤ 1000 := by simp; omega
    have HLL : Hid (∃ L, M.map Prod.fst = L) := ⟨_, rfl⟩
    have HMk : Hid (M.length = k) := hMk
    clear hMk
    generalize hLL : M.map Prod.fst = L at *
    have HL2 : Hid (M.map Prod.fst = L) := hLL
    clear hLL HLL
    obtain ⟨ta, tc, rfl, _, _⟩ := hrow.len
    by_cases hlt : k < l.length
    · have hlt2 : (k : Int) < (l.length : Int) := by omega
      have hx : l[k]? = some l[k] := by simp [hlt]
      generalize l[k] = q at hx
      have hqo := HO.out q (List.mem_of_getElem? hx)
      have HU : Hid (bd + k * (6 * n + 10) ≤ 5000000 ∧ bd + k * (6 * n + 10) + 6 * n + 10 = bd + (k + 1) * (6 * n + 10) ∧ bd + (k + 1) * (6 * n + 10) ≤ bd + l.length * (6 * n + 10)) := by
        have h1 : (k + 1) * (6 * n + 10) ≤ l.length * (6 * n + 10) := Nat.mul_le_mul_right _ hlt
        have h2 := Nat.succ_mul k (6 * n + 10)
        refine ⟨?_, ?_, ?_⟩
        · rw [Nat.succ_eq_add_one] at h2; omega
        · rw [Nat.succ_eq_add_one] at h2; omega
        · omega
      have HT : Hid ((l.take (k + 1)).map pb = (l.take k).map pb ++ [pb q]) := by
        show _ = _
        rw [take_snoc l k q hx, List.map_append]
        rfl
      obtain ⟨b1, _, e, _, _, l1, q1⟩ := HP.out.cell pc_len hx
      cases e
      have hkb := hk1.out b1 (hPG b1 rfl)
      have r1 : ∀ j u, (Pc.cells q)[j]? = some u → wr.cell? ⟨b1, k * 5 + j, none⟩ = some u := fun j u hu => (World.cell?_of_block (w := w) hkb).trans (q1 j u hu)
      have s0 : wr.cell? ⟨b1, k * 5, none⟩ = some (.int .i64 (q.id : Int)) := r1 0 _ rfl
      have s1 := r1 1 _ rfl
      have s2 := r1 2 _ rfl
      have s3 := r1 3 _ rfl
      have s4 := r1 4 _ rfl
      obtain ⟨c0, c1, c2, f2⟩ := rcells ((hk1.out rb hg).trans HR.out)
      have b0 := below_alloc1 wr (pcObj q)
      have dW := d1.alloc (pcObj q)
      have kW := d1.keep b0
      have hX := heap_alloc_new wr (pcObj q)
      have e0 := (World.cell?_of_block (w := wr) (a := ⟨rb, 0, none⟩) (kW rb (Or.inl hg))).trans c0
      have x0 : (wr.alloc (pcObj q)).cell? ⟨wr.heap.size, 0, none⟩ = some (.int .i64 (q.id : Int)) := cell_in hX 0 _ rfl
      have x1 : (wr.alloc (pcObj q)).cell? ⟨wr.heap.size, 1, none⟩ = some (.int .i64 (q.no : Int)) := cell_in hX 1 _ rfl
      have x2 : (wr.alloc (pcObj q)).cell? ⟨wr.heap.size, 2, none⟩ = some (.int .i64 (q.size : Int)) := cell_in hX 2 _ rfl
      have x3 : (wr.alloc (pcObj q)).cell? ⟨wr.heap.size, 3, none⟩ = some (.int .u32 (q.sum : Int)) := cell_in hX 3 _ rfl
      have x4 : (wr.alloc (pcObj q)).cell? ⟨wr.heap.size, 4, none⟩ = some (.string q.part) := cell_in hX 4 _ rfl
      have hW : wr.alloc (.cells #[.int .i64 (q.id : Int), .int .i64 (q.no : Int), .int .i64 (q.size : Int), .int .u32 (q.sum : Int), .string q.part] 126) = wr.alloc (pcObj q) := rfl
      have HW := (show Hid _ from And.intro kW (And.intro hX d1))
      clear q1 r1 hx c1 c2 f2 hkb hX b0 d1 kW
      go_upto_region 4 with fail
      clear hW
      generalize wr.alloc (pcObj q) = W0 at *
      go_region_held3 (fun V => V.cell? ⟨rb, 0, none⟩ = some (.pointer (some ⟨hb, 0, none⟩)) ∧ V.cell? ⟨wr.heap.size, 0, none⟩ = some (.int .i64 (q.id : Int)) ∧ V.cell? ⟨wr.heap.size, 1, none⟩ = some (.int .i64 (q.no : Int)) ∧ V.cell? ⟨wr.heap.size, 2, none⟩ = some (.int .i64 (q.size : Int)) ∧ V.cell? ⟨wr.heap.size, 3, none⟩ = some (.int .u32 (q.sum : Int)) ∧ V.cell? ⟨wr.heap.size, 4, none⟩ = some (.string q.part)) (first | exact hB | exact ⟨e0, x0, x1, x2, x3, x4⟩ | go_keep)
        (first
          | (go_at_call 63; refine (bytes_any q hqo _).mono ?_; rintro e w2 ⟨rfl, b2⟩; have d2 := dW.below (drew_belowW b2); have KK := dW.keep (drew_belowW b2); have hB := (⟨(World.cell?_of_block (w := W0) (KK rb (Or.inl (Or.inl hg)))).trans e0, (World.cell?_of_block (w := W0) (KK wr.heap.size (Or.inr rfl))).trans x0, (World.cell?_of_block (w := W0) (KK wr.heap.size (Or.inr rfl))).trans x1, (World.cell?_of_block (w := W0) (KK wr.heap.size (Or.inr rfl))).trans x2, (World.cell?_of_block (w := W0) (KK wr.heap.size (Or.inr rfl))).trans x3, (World.cell?_of_block (w := W0) (KK wr.heap.size (Or.inr rfl))).trans x4⟩ : _ ∧ _ ∧ _ ∧ _ ∧ _ ∧ _))
          | (have _ := d2; go_at_call 62; refine (d2.insert HU.out.1 hm (pb q) (pb_size hqo)).mono ?_; rintro e w3 ⟨K, X, rfl, i3, k3⟩; have K3 := KK.trans k3; have KK := K3; have hB := (⟨(World.cell?_of_block (w := W0) (KK rb (Or.inl (Or.inl hg)))).trans e0, (World.cell?_of_block (w := W0) (KK wr.heap.size (Or.inr rfl))).trans x0, (World.cell?_of_block (w := W0) (KK wr.heap.size (Or.inr rfl))).trans x1, (World.cell?_of_block (w := W0) (KK wr.heap.size (Or.inr rfl))).trans x2, (World.cell?_of_block (w := W0) (KK wr.heap.size (Or.inr rfl))).trans x3, (World.cell?_of_block (w := W0) (KK wr.heap.size (Or.inr rfl))).trans x4⟩ : _ ∧ _ ∧ _ ∧ _ ∧ _ ∧ _)))
      have hKw : Keep (fun j => G j ∨ (Value.slice ta L.length tc).ownBlock = some j) wr w3 := (HW.out.1).trans (KK.less (fun j q => Or.inl q))
      have hrow3 := hrow.kept (fun j e => hKw j (Or.inr e))
      have hKG : Keep G w w3 := (hk1.out).trans (hKw.less (fun j q => Or.inl q))
      clear d2 dW b2 k3 K3 KK hrow hB e0 x0 x1 x2 x3 x4 c0 s0 s1 s2 s3 s4
      rcases i3.out with ⟨rfl, _, _, _, H2, hp2, d3⟩ | ⟨rfl, hfull, d3⟩
      · clear i3
        have hrow4 := hrow3.below' (below_alloc1 w3 (.cells #[.int .i64 K] 3))
        have d4 := (d3.less (G' := fun j => G j ∨ (Value.slice ta L.length tc).ownBlock = some j) (fun j q => Or.inl q)).below (below_alloc1 w3 (.cells #[.int .i64 K] 3))
        have hB4 := d4.bel.size
        have hK4 : Keep G w (w3.alloc (.cells #[.int .i64 K] 3)) := hKG.trans ((d3.keep (below_alloc1 w3 (.cells #[.int .i64 K] 3))).less (fun j q => Or.inl (Or.inl q)))
        have HD4 := (show Hid _ from And.intro d4 hK4)
        have hp3 : Hid ((ent n H2).Perm ((M ++ [(K, pb q)]) ++ ent n H)) := by
          show _
          refine hp2.trans ?_
          rw [List.append_assoc]
          exact ((List.Perm.cons _ hp1.out).trans List.perm_middle.symm)
        clear d3 hp2 d4 hK4 hKG hrow3
        go_wp2_with (at_builtin; refine wpList_append_int _ rfl _ _ rfl W.heap.size _ L [K] rfl hrow4 ⟨w3.heap.size, 0, none⟩ 1 (by simp; rfl) (one_src _ _ (by simp)) (by simp; omega) hB4 ?_; intro v' w5 hrow5 hfr hnew)
        have d5 : Dx W w5 hb p g (bd + k * (6 * n + 10) + 6 * n + 10) n m H2 (fun j => G j ∨ v'.ownBlock = some j) := HD4.out.1.own hfr (fun j e => Or.inl (Or.inr e)) (fun j e => by
          rcases e with e | e
          · refine ⟨Or.inl (Or.inl e), Nat.lt_of_lt_of_le (HD4.out.1.lt (Or.inl e)) hfr.size⟩
          · refine ⟨?_, (hrow5.blk e).2⟩
            rcases hnew j e with z | z
            · exact Or.inl (Or.inr z)
            · exact Or.inr z)
        have hK5 : Keep G w w5 := HD4.out.2.trans (fun j e => hfr.block j (HD4.out.1.lt (Or.inl e)) (fun z => hoff.out j z e))
        have ho5 : ∀ j, v'.ownBlock = some j → ¬ G j := fun j e z => by
          rcases hnew j e with y | y
          · exact hoff.out j y z
          · have := HD4.out.1.lt (Or.inl z); omega
        rw [HU.out.2.1] at d5
        have HF := (show Hid _ from And.intro d5 (And.intro hK5 ho5))
        clear d5 hK5 ho5 hfr hnew
        go_roundw
        case rel => exact ⟨k + 1, M ++ [(K, pb q)], H2, by omega, by go_num, rfl, by simp; exact HMk.out, by show _ = _; rw [HT.out, List.map_append, hM.out]; rfl, by rw [List.map_append, HL2.out]; exact hrow5, HF.out.2.2, HF.out.1, hp3, HF.out.2.1⟩
        case measure => simp [Go.RowKit.intOf]; omega
      · have hE : Hid (Inst9 W w w3 hb p g (bd + l.length * (6 * n + 10)) n m H G l (.slice ta L.length tc) 50) := by
          refine ⟨M, H', by rw [HMk.out]; exact hM.out, by rw [HL2.out]; exact hrow3, hoff.out, (d3.less (fun j q => Or.inl q)).mono ?_, hp1.out, hKG, Or.inr ⟨rfl, by have := HMk.out; omega, hfull⟩⟩
          rw [HU.out.2.1]
          exact HU.out.2.2
        clear i3 d3 hrow3 hKG hKw
        go_wp2_with fail
        rw [Exit.noGoto_ret]
        go_ret2
        exact ⟨_, _, rfl, hE.out⟩
    · obtain rfl : k = l.length := by omega
      have hE : Hid (Inst9 W w wr hb p g (bd + l.length * (6 * n + 10)) n m H G l (.slice ta L.length tc) 0) :=
        ⟨M, H', by rw [HMk.out]; exact hM.out, by rw [HL2.out]; exact hrow, hoff.out, d1, hp1.out, hk1.out, Or.inl ⟨rfl, HMk.out⟩⟩
      have hlt2 : decide ((l.length : Int) < (l.length : Int)) = false := by simp
      clear d1 hrow
      go_wp2_with fail
      rw [Exit.noGoto_ret]
      go_ret2
      exact ⟨_, _, rfl, hE.out⟩
end
end Go.Proofs.YtkjioabhdglkpaaGreat
end

section
namespace Go.Proofs.YtkjioabhdglkpaaGreat
open Go.RowKit

section
variable {W w w' : World} {hb p g bd n m rb mb : Nat} {H : Hp} {G G' : Nat → Prop} {v : Value} {L : List Int}

set_option maxHeartbeats 1600000 in
set_option maxRecDepth 100000 in
theorem takeBack_any {M ex : List (Int × ByteArray)} {wv : Value} (d : Dx W w hb p g bd n m H G) (hbd : bd + 9 * M.length ≤ 6000000) (hm : 2 ≤ m) (hg : G rb) (hr : w.heap[rb]? = some (robj hb mb wv)) (hI : IntsAt w (fun k => G k ∧ k ≠ rb) v (M.map Prod.fst)) (hp : (ent n H).Perm (M ++ ex)) :
    Calls Tryz.prog 37 #[.pointer (some ⟨rb, 0, none⟩), v, .int .i64 50] w fun e w' => e = .returned (.int .i64 50) ∧ Swept W w w' hb p g (bd + 9 * M.length) n m rb mb ex G := by
  obtain ⟨c0, c1, c2, f2⟩ := rcells hr
  have d2 := d.set ⟨rb, 2, none⟩ hg v
  have k2 : Keep (fun k => G k ∧ k ≠ rb) w (w.setCell ⟨rb, 2, none⟩ v) := keep_set (a := ⟨rb, 2, none⟩) (fun q => q.2 rfl) v
  have cS := sweep_any d2 hbd hm hg (rset hr v) (hI.kept k2) hp
  have hv : ∃ a n c, v = .slice a n c := by
    rcases hI with ⟨a, c, e, _⟩ | ⟨b, off, c, e, _⟩
    · exact ⟨_, _, _, e⟩
    · exact ⟨_, _, _, e⟩
  obtain ⟨a, z, c, rfl⟩ := hv
  have HK := (show Hid _ from k2)
  clear d d2 k2 hI hp hr
  go_enter Tryz.func37, Tryz.ntmps37
  go_wp2_with fail
  refine cS.mono ?_
  rintro e w3 ⟨rfl, ⟨H', wa, wc, e1, e2, e3, e4⟩⟩
  have HS : Hid (Swept W w w3 hb p g (bd + 9 * M.length) n m rb mb ex G) := ⟨H', wa, wc, e1, e2, e3, Keep.trans HK.out e4⟩
  clear e1 e2 e3 e4 cS
  go_wp2_with fail
  go_ret
  exact ⟨rfl, HS.out⟩
end
end Go.Proofs.YtkjioabhdglkpaaGreat
end

section
namespace Go.Proofs.YtkjioabhdglkpaaGreat
open Go.RowKit

/-- A row: its number, its text, where its pieces stand. -/
structure Ro where
  id : Nat
  text : ByteArray
  ks : List Int
/-- What a heap has of it. -/
def rowsE (x : Ro) : List (Int × ByteArray) := x.ks.zip ((pcsN x.id x.text).map pb)
def owned (rs : List Ro) : List (Int × ByteArray) := rs.flatMap rowsE
structure Rok (x : Ro) : Prop where
  id : 1 ≤ x.id ∧ x.id ≤ 4611686018427387903
  text : x.text.size ≤ 4000
  ks : x.ks.length = cntN x.text.size
/-- By rising numbers. -/
def Rise (rs : List Ro) : Prop := rs.Pairwise (fun a b => a.id < b.id)
def putRo : List Ro → Ro → List Ro
  | [], x => [x]
  | y :: rs, x => if x.id < y.id then x :: y :: rs else if x.id = y.id then x :: rs else y :: putRo rs x
def delRo (rs : List Ro) (id : Nat) : List Ro := rs.filter (fun y => !(y.id == id))
def idsR (rs : List Ro) : List Int := rs.map (fun x => (x.id : Int))
def pieN (rs : List Ro) : Nat := (rs.map (fun x => cntN x.text.size)).sum

theorem mem_delRo {rs : List Ro} {id : Nat} {y : Ro} : y ∈ delRo rs id ↔ y ∈ rs ∧ y.id ≠ id := by
  unfold delRo
  rw [List.mem_filter]
  simp
theorem rise_del {rs : List Ro} (h : Rise rs) (id : Nat) : Rise (delRo rs id) := h.filter _
theorem delRo_no {rs : List Ro} {id : Nat} (h : ∀ y ∈ rs, y.id ≠ id) : delRo rs id = rs := by
  unfold delRo
  rw [List.filter_eq_self]
  intro y hy
  simpa using h y hy
theorem mem_putRo {rs : List Ro} (h : Rise rs) (x y : Ro) : y ∈ putRo rs x ↔ y = x ∨ y ∈ delRo rs x.id := by
  induction rs with
  | nil => simp [putRo, delRo]
  | cons z rs ih =>
    obtain ⟨h1, h2⟩ := List.pairwise_cons.1 h
    unfold putRo
    split
    · rename_i q
      rw [delRo_no (rs := z :: rs) (by
        intro u hu
        rcases List.mem_cons.1 hu with rfl | hu
        · omega
        · have := h1 u hu; omega)]
      exact List.mem_cons
    · split
      · rename_i q
        have e : delRo (z :: rs) x.id = rs := by
          show (z :: rs).filter _ = rs
          rw [List.filter_cons_of_neg (by simp [q])]
          exact delRo_no (fun u hu => by have := h1 u hu; omega)
        rw [e]
        exact List.mem_cons
      · rename_i q1 q2
        have e : delRo (z :: rs) x.id = z :: delRo rs x.id := by
          show (z :: rs).filter _ = _
          rw [List.filter_cons_of_pos (by simp; omega)]
          rfl
        rw [e, List.mem_cons, ih h2, List.mem_cons]
        constructor
        · rintro (a | a | a)
          · exact Or.inr (Or.inl a)
          · exact Or.inl a
          · exact Or.inr (Or.inr a)
        · rintro (a | a | a)
          · exact Or.inr (Or.inl a)
          · exact Or.inl a
          · exact Or.inr (Or.inr a)
theorem rise_put {rs : List Ro} (h : Rise rs) (x : Ro) : Rise (putRo rs x) := by
  induction rs with
  | nil => exact List.pairwise_singleton _ _
  | cons z rs ih =>
    obtain ⟨h1, h2⟩ := List.pairwise_cons.1 h
    unfold putRo
    split
    · rename_i q
      refine List.pairwise_cons.2 ⟨fun u hu => ?_, h⟩
      rcases List.mem_cons.1 hu with rfl | hu
      · exact q
      · have := h1 u hu; omega
    · split
      · rename_i q
        exact List.pairwise_cons.2 ⟨fun u hu => by have := h1 u hu; omega, h2⟩
      · refine List.pairwise_cons.2 ⟨fun u hu => ?_, ih h2⟩
        rcases (mem_putRo h2 x u).1 hu with rfl | hu
        · omega
        · exact h1 u (mem_delRo.1 hu).1
theorem put_perm {rs : List Ro} (h : Rise rs) (x : Ro) : (putRo rs x).Perm (x :: delRo rs x.id) := by
  have n1 : (putRo rs x).Nodup := (rise_put h x).imp (fun {a b} q e => by rw [e] at q; omega)
  have n2 : (x :: delRo rs x.id).Nodup := by
    refine List.nodup_cons.2 ⟨fun q => (mem_delRo.1 q).2 rfl, (rise_del h x.id).imp (fun {a b} q e => by rw [e] at q; omega)⟩
  refine (List.perm_ext_iff_of_nodup n1 n2).2 (fun y => ?_)
  rw [mem_putRo h, List.mem_cons]
theorem same_id {rs : List Ro} (h : Rise rs) {x y : Ro} (hx : x ∈ rs) (hy : y ∈ rs) (e : x.id = y.id) : x = y := by
  induction rs with
  | nil => cases hx
  | cons z rs ih =>
    obtain ⟨h1, h2⟩ := List.pairwise_cons.1 h
    rcases List.mem_cons.1 hx with a | a <;> rcases List.mem_cons.1 hy with b | b
    · rw [a, b]
    · have := h1 y b; rw [← a] at this; omega
    · have := h1 x a; rw [← b] at this; omega
    · exact ih h2 a b
theorem del_perm {rs : List Ro} (h : Rise rs) {y : Ro} (hy : y ∈ rs) : rs.Perm (y :: delRo rs y.id) := by
  have n1 : rs.Nodup := h.imp (fun {a b} q e => by rw [e] at q; omega)
  have n2 : (y :: delRo rs y.id).Nodup := by
    refine List.nodup_cons.2 ⟨fun q => (mem_delRo.1 q).2 rfl, (rise_del h y.id).imp (fun {a b} q e => by rw [e] at q; omega)⟩
  refine (List.perm_ext_iff_of_nodup n1 n2).2 (fun z => ?_)
  rw [List.mem_cons, mem_delRo]
  constructor
  · intro hz
    by_cases e : z.id = y.id
    · exact Or.inl (same_id h hz hy e)
    · exact Or.inr ⟨hz, e⟩
  · rintro (rfl | ⟨a, _⟩)
    · exact hy
    · exact a
theorem owned_perm {a b : List Ro} (h : a.Perm b) : (owned a).Perm (owned b) := List.Perm.flatMap_right _ h
theorem owned_cons (x : Ro) (rs : List Ro) : owned (x :: rs) = rowsE x ++ owned rs := List.flatMap_cons
theorem rowsE_len {x : Ro} (h : Rok x) : (rowsE x).length = cntN x.text.size := by
  unfold rowsE
  rw [List.length_zip, List.length_map, pcs_len, h.ks, Nat.min_self]
theorem owned_len {rs : List Ro} (h : ∀ x ∈ rs, Rok x) : (owned rs).length = pieN rs := by
  induction rs with
  | nil => rfl
  | cons x rs ih =>
    rw [owned_cons, List.length_append, rowsE_len (h x (List.mem_cons_self ..)), ih (fun y hy => h y (List.mem_cons_of_mem _ hy))]
    rfl
theorem rowsE_fst {x : Ro} (h : Rok x) : (rowsE x).map Prod.fst = x.ks := by
  unfold rowsE
  rw [List.map_fst_zip]
  rw [List.length_map, pcs_len, h.ks]
  exact Nat.le_refl _
theorem rowsE_get {x : Ro} (h : Rok x) {a : Nat} {k : Int} (hk : x.ks[a]? = some k) : (k, pb (pcAt x.id x.text a)) ∈ rowsE x ∧ a < cntN x.text.size := by
  have ha : a < cntN x.text.size := by rw [← h.ks]; exact (List.getElem?_eq_some_iff.1 hk).1
  refine ⟨?_, ha⟩
  unfold rowsE
  refine List.mem_of_getElem? (i := a) ?_
  rw [List.getElem?_zip_eq_some]
  exact ⟨hk, by rw [List.getElem?_map, pcs_get ha]; rfl⟩
theorem mem_owned {rs : List Ro} {k : Int} {r : ByteArray} (h : (k, r) ∈ owned rs) : ∃ x ∈ rs, ∃ a : Nat, x.ks[a]? = some k ∧ a < cntN x.text.size ∧ r = pb (pcAt x.id x.text a) := by
  obtain ⟨x, hx, hm⟩ := List.mem_flatMap.1 h
  obtain ⟨a, ha⟩ := List.getElem?_of_mem hm
  unfold rowsE at ha
  rw [List.getElem?_zip_eq_some] at ha
  obtain ⟨h1, h2⟩ := ha
  have hl := (List.getElem?_eq_some_iff.1 h2).1
  rw [List.length_map, pcs_len] at hl
  rw [List.getElem?_map, pcs_get hl] at h2
  exact ⟨x, hx, a, h1, hl, by simpa using h2.symm⟩
theorem ids_mem {rs : List Ro} {i : Int} : i ∈ idsR rs ↔ ∃ x ∈ rs, (x.id : Int) = i := by
  unfold idsR; rw [List.mem_map]
theorem ids_nodup {rs : List Ro} (h : Rise rs) : (idsR rs).Nodup := by
  unfold idsR List.Nodup
  rw [List.pairwise_map]
  exact h.imp (fun {a b} q e => by omega)
theorem zip_back (M : List (Int × ByteArray)) : (M.map Prod.fst).zip (M.map Prod.snd) = M := by
  induction M with
  | nil => rfl
  | cons y M ih => simp [ih]
theorem cnt_pos (k : Nat) : 1 ≤ cntN k := by unfold cntN; omega
theorem len_putRo {rs : List Ro} (h : Rise rs) (x : Ro) : (putRo rs x).length ≤ rs.length + 1 := by
  rw [(put_perm h x).length_eq, List.length_cons]
  unfold delRo
  have := List.length_filter_le (fun y : Ro => !(y.id == x.id)) rs
  omega

end Go.Proofs.YtkjioabhdglkpaaGreat
end

section
namespace Go.Proofs.YtkjioabhdglkpaaGreat
open Go.RowKit

/-- The blocks of rows. -/
def Ft (rb mb : Nat) (rs : List Ro) (vf : Int → Value) (k : Nat) : Prop := k = rb ∨ k = mb ∨ ∃ x ∈ rs, (vf (x.id : Int)).ownBlock = some k

/-- Rows in memory, over a heap with the rows H; the blocks of G are others'. -/
structure Rm (W w : World) (rb hb p g bd n m mb : Nat) (wv : Value) (vf : Int → Value) (H : Hp) (rs : List Ro) (G : Nat → Prop) : Prop where
  dx : Dx W w hb p g bd n m H (fun k => G k ∨ Ft rb mb rs vf k)
  top : w.heap[rb]? = some (robj hb mb wv)
  mp : IMap w mb (idsR rs) vf
  row : ∀ x ∈ rs, IRow w W.heap.size (vf (x.id : Int)) x.ks
  ok : ∀ x ∈ rs, Rok x
  rise : Rise rs
  ap : ∀ k, Ft rb mb rs vf k → ¬ G k

section
variable {W w w' : World} {rb hb p g bd n m mb : Nat} {wv : Value} {vf : Int → Value} {H : Hp} {rs : List Ro} {G : Nat → Prop}

theorem Rm.rbF : Ft rb mb rs vf rb := Or.inl rfl
theorem Rm.mbF : Ft rb mb rs vf mb := Or.inr (Or.inl rfl)
theorem Rm.roF {x : Ro} (hx : x ∈ rs) {k : Nat} (h : (vf (x.id : Int)).ownBlock = some k) : Ft rb mb rs vf k := Or.inr (Or.inr ⟨x, hx, h⟩)
theorem Rm.mb_ne (h : Rm W w rb hb p g bd n m mb wv vf H rs G) : mb ≠ rb := fun e => by
  obtain ⟨D, h1, _⟩ := h.mp.ex
  obtain ⟨es, c, h2, _⟩ := h1
  rw [e, h.top] at h2
  cases h2
theorem Rm.ro_ne (h : Rm W w rb hb p g bd n m mb wv vf H rs G) {x : Ro} (hx : x ∈ rs) {k : Nat} (hk : (vf (x.id : Int)).ownBlock = some k) : k ≠ rb ∧ k ≠ mb := by
  have hr := (h.row x hx).own
  rcases hr.2 with ⟨e, _⟩ | ⟨b, cap, cur, e, _, hb, _⟩
  · rw [e] at hk; simp [Value.ownBlock] at hk
  · rw [e] at hk
    have hbk : b = k := by simpa [Value.ownBlock] using hk
    subst hbk
    refine ⟨fun z => ?_, fun z => ?_⟩
    · rw [z, h.top] at hb
      simp [robj] at hb
    · obtain ⟨D, h1, _⟩ := h.mp.ex
      obtain ⟨es, c, h2, _⟩ := h1
      rw [z, h2] at hb
      cases hb
/-- Another world in which the blocks are as they were. -/
theorem Rm.move {bd' : Nat} {H' : Hp} (h : Rm W w rb hb p g bd n m mb wv vf H rs G) (d : Dx W w' hb p g bd' n m H' (fun k => G k ∨ Ft rb mb rs vf k)) (k : Keep (fun k => G k ∨ Ft rb mb rs vf k) w w') : Rm W w' rb hb p g bd' n m mb wv vf H' rs G :=
  ⟨d, (k rb (Or.inr Rm.rbF)).trans h.top, h.mp.kept (k mb (Or.inr Rm.mbF)), fun x hx => (h.row x hx).kept (fun j e => k j (Or.inr (Rm.roF hx e))), h.ok, h.rise, h.ap⟩
theorem Rm.below (h : Rm W w rb hb p g bd n m mb wv vf H rs G) (b : Below w.heap.size w w') : Rm W w' rb hb p g bd n m mb wv vf H rs G := h.move (h.dx.below b) (h.dx.keep b)
theorem Rm.mono {c : Nat} (h : Rm W w rb hb p g bd n m mb wv vf H rs G) (hc : bd ≤ c) : Rm W w rb hb p g c n m mb wv vf H rs G := h.move (h.dx.mono hc) (Keep.refl _ _)
/-- Waste is gone, or has come. -/
theorem Rm.top' {bd' : Nat} {H' : Hp} {wv' : Value} (h : Rm W w rb hb p g bd n m mb wv vf H rs G) (d : Dx W w' hb p g bd' n m H' (fun k => G k ∨ Ft rb mb rs vf k)) (t : w'.heap[rb]? = some (robj hb mb wv')) (k : Keep (fun k => (G k ∨ Ft rb mb rs vf k) ∧ k ≠ rb) w w') : Rm W w' rb hb p g bd' n m mb wv' vf H' rs G :=
  ⟨d, t, h.mp.kept (k mb ⟨Or.inr Rm.mbF, h.mb_ne⟩), fun x hx => (h.row x hx).kept (fun j e => k j ⟨Or.inr (Rm.roF hx e), (h.ro_ne hx e).1⟩), h.ok, h.rise, h.ap⟩

/-- Rows. -/
structure Rz (W w : World) (rb hb p g bd n m : Nat) (rs : List Ro) (G : Nat → Prop) : Prop where
  ex : ∃ mb wa wc vf H, Rm W w rb hb p g bd n m mb (.slice wa 0 wc) vf H rs G ∧ (ent n H).Perm (owned rs)

theorem zero_ints (w : World) : (zeroValue 66).run Tryz.prog w = .ok (.slice none 0 0) w := by kernel_rfl

set_option maxHeartbeats 800000 in
theorem pieces_yes (h : Rm W w rb hb p g bd n m mb wv vf H rs G) {x : Ro} (hx : x ∈ rs) : Calls Tryz.prog 29 #[.pointer (some ⟨rb, 0, none⟩), .int .i64 (x.id : Int)] w fun e w' => e = .returned (.int .i64 (cntN x.text.size : Int)) ∧ w' = w := by
  obtain ⟨_, c1, _, _⟩ := rcells h.top
  have hl := h.mp.look_yes (t := 71) Tryz.underlying71 (zero_ints w) (ids_mem.2 ⟨x, hx, rfl⟩) false
  obtain ⟨a, c, e, _, _⟩ := (h.row x hx).len
  rw [e] at hl
  have hk := (h.ok x hx).ks
  rw [← hk]
  clear hk e h
  go_enter Tryz.func29, Tryz.ntmps29
  go_wp2_with fail
  go_ret
  exact ⟨rfl, rfl⟩
set_option maxHeartbeats 800000 in
theorem pieces_no (h : Rm W w rb hb p g bd n m mb wv vf H rs G) {i : Int} (hi : i64B i) (hx : i ∉ idsR rs) : Calls Tryz.prog 29 #[.pointer (some ⟨rb, 0, none⟩), .int .i64 i] w fun e w' => e = .returned (.int .i64 0) ∧ w' = w := by
  obtain ⟨_, c1, _, _⟩ := rcells h.top
  have hl := h.mp.look_no (t := 71) Tryz.underlying71 (zero_ints w) hi hx false
  clear h
  go_enter Tryz.func29, Tryz.ntmps29
  go_wp2_with fail
  go_ret
  exact ⟨rfl, rfl⟩
set_option maxHeartbeats 800000 in
theorem roget_no (h : Rm W w rb hb p g bd n m mb wv vf H rs G) {i : Int} (hi : i64B i) (hx : i ∉ idsR rs) : Calls Tryz.prog 28 #[.pointer (some ⟨rb, 0, none⟩), .int .i64 i] w fun e w' => e = .returned (.tuple #[.string ⟨#[]⟩, .int .i64 60]) ∧ w' = w := by
  obtain ⟨_, c1, _, _⟩ := rcells h.top
  have hl := h.mp.look_no (t := 71) Tryz.underlying71 (zero_ints w) hi hx true
  clear h
  go_enter Tryz.func28, Tryz.ntmps28
  go_wp2_with fail
  go_ret2
  exact ⟨rfl, rfl⟩
end

end Go.Proofs.YtkjioabhdglkpaaGreat
end

section
namespace Go.Proofs.YtkjioabhdglkpaaGreat
open Go.RowKit

/-- A row's text was read. -/
structure Got (W w w' : World) (rb hb p g bd n m mb : Nat) (wv : Value) (vf : Int → Value) (H : Hp) (rs : List Ro) (G : Nat → Prop) : Prop where
  rm : Rm W w' rb hb p g bd n m mb wv vf H rs G
  keep : Keep G w w'

theorem pcs_step (id : Nat) (text : ByteArray) (k : Nat) (hk : k < cntN text.size) : (pcsN id text).take (k + 1) = (pcsN id text).take k ++ [pcAt id text k] := take_snoc _ _ _ (pcs_get hk)

section
variable {W w w' : World} {rb hb p g bd n m mb : Nat} {wv : Value} {vf : Int → Value} {H : Hp} {rs : List Ro} {G : Nat → Prop}

set_option maxHeartbeats 3200000 in
set_option maxRecDepth 100000 in
theorem roget_yes (h : Rm W w rb hb p g bd n m mb wv vf H rs G) (hbd : bd ≤ 5000000) (hm : 1 ≤ m) (hp : (ent n H).Perm (owned rs)) {x : Ro} (hx : x ∈ rs) :
    Calls Tryz.prog 28 #[.pointer (some ⟨rb, 0, none⟩), .int .i64 (x.id : Int)] w fun e w' => e = .returned (.tuple #[.string x.text, .int .i64 0]) ∧ Got W w w' rb hb p g (bd + 36) n m mb wv vf H rs G := by
  obtain ⟨c0, c1, _, _⟩ := rcells h.top
  have hl := h.mp.look_yes (t := 71) Tryz.underlying71 (zero_ints w) (ids_mem.2 ⟨x, hx, rfl⟩) true
  have hrow := h.row x hx
  have hok := h.ok x hx
  have hown : ∀ j, (vf (x.id : Int)).ownBlock = some j → Ft rb mb rs vf j := fun j e => Rm.roF hx e
  have HI : Hid (∀ (a : Nat) (k : Int), x.ks[a]? = some k → (k, pb (pcAt x.id x.text a)) ∈ ent n H ∧ (pcAt x.id x.text a).Ok ∧ a < cntN x.text.size) := fun a k hk => by
    obtain ⟨h1, h2⟩ := rowsE_get hok hk
    exact ⟨hp.mem_iff.2 (List.mem_flatMap.2 ⟨x, hx, h1⟩), pc_ok hok.id hok.text h2, h2⟩
  obtain ⟨va, vc, e, _, _⟩ := hrow.len
  have HR := (show Hid _ from h)
  rw [e] at hl hrow hown
  clear e hp hx h
  have hlen : x.ks.length = cntN x.text.size := hok.ks
  have hc12 : cntN x.text.size ≤ 12 := by have := hok.text; unfold cntN; omega
  have cJ := rjoin_any x.id hok.id.2 x.text (by have := hok.text; omega)
  have HT : Hid (∀ k, k < cntN x.text.size → (pcsN x.id x.text).take (k + 1) = (pcsN x.id x.text).take k ++ [pcAt x.id x.text k]) := fun k hk => pcs_step x.id x.text k hk
  have HTL : Hid ((pcsN x.id x.text).take (cntN x.text.size) = pcsN x.id x.text) := List.take_of_length_le (by rw [pcs_len]; exact Nat.le_refl _)
  obtain ⟨id, text, ks⟩ := x
  simp only at *
  generalize cntN text.size = C at *
  have hB := HR.out.dx.bel.size
  go_enter Tryz.func28, Tryz.ntmps28
  go_wp2_with fail
  go_loopw [8, 30] (fun sl sk wr => ∃ k : Nat, k ≤ ks.length ∧ sk = .int .i64 (k : Int) ∧ PRow wr W.heap.size sl ((pcsN id text).take k) ∧ Hid (∀ j, sl.ownBlock = some j → ¬ (G j ∨ Ft rb mb rs vf j)) ∧ Dx W wr hb p g (bd + 3 * k) n m H (fun j => (G j ∨ Ft rb mb rs vf j) ∨ sl.ownBlock = some j) ∧ Hid (Keep (fun j => G j ∨ Ft rb mb rs vf j) w wr)) (fun _ sk _ => ks.length - (Go.RowKit.intOf sk).toNat)
  case atStart => exact ⟨0, Nat.zero_le _, rfl, grow_nil _ _ _ _ _, fun j e => by simp [Value.ownBlock] at e, by simpa [Value.ownBlock] using HR.out.dx, Keep.refl _ _⟩
  case round =>
    obtain ⟨k, hk, rfl, hpr, hoff, d1, hk1⟩ := hrel
    have hll : ((pcsN id text).take k).length ≤ 100 := by rw [List.length_take]; omega
    by_cases hlt : k < ks.length
    · have hlt2 : (k : Int) < (ks.length : Int) := by omega
      have hx : ks[k]? = some ks[k] := by simp [hlt]
      generalize ks[k] = K at hx
      obtain ⟨hin, hqo, hkC⟩ := HI.out k K hx
      obtain ⟨b1, _, e, _, _, l1, q1⟩ := hrow.cell hx
      cases e
      have s0 : wr.cell? ⟨b1, k, none⟩ = some (.int .i64 K) := (World.cell?_of_block (w := w) (hk1.out b1 (Or.inr (hown b1 rfl)))).trans q1
      have e0 : wr.cell? ⟨rb, 0, none⟩ = some (.pointer (some ⟨hb, 0, none⟩)) := (World.cell?_of_block (w := w) (hk1.out rb (Or.inr Rm.rbF))).trans c0
      have hT := HT.out k hkC
      have HT1 := (show Hid _ from hT)
      have cR := d1.read (by omega) hm K _ hqo hin
      have HQ : Hid (∃ q, pcAt id text k = q) := ⟨_, rfl⟩
      generalize pcAt id text k = q at *
      generalize hLL : (pcsN id text).take k = L at *
      clear hLL hT hin hqo q1 hx
      obtain ⟨ta, tc, rfl, _, _⟩ := hpr.len
      go_wp2_with fail
      refine cR.mono ?_
      rintro e w2 ⟨rfl, d2, k2⟩
      have hpr2 := hpr.kept (fun j e => k2 j (Or.inr e))
      have b2a := below_alloc1 w2 (pcObj q)
      have b2 := below2 b2a (below_alloc1 (w2.alloc (pcObj q)) (pcObj q))
      have hpr3 := hpr2.below' b2
      have hsrc := pc_src (w2.alloc (pcObj q)) q
      have d3 := d2.below b2
      have hK3 : Keep (fun j => G j ∨ Ft rb mb rs vf j) w ((w2.alloc (pcObj q)).alloc (pcObj q)) := (hk1.out.trans (k2.less (fun j z => Or.inl z))).trans ((d2.keep b2).less (fun j z => Or.inl z))
      have hB3 := d3.bel.size
      have HD3 := (show Hid _ from And.intro d3 hK3)
      have hX := heap_alloc_new w2 (pcObj q)
      have x0 : (w2.alloc (pcObj q)).cell? ⟨w2.heap.size, 0, none⟩ = some (.int .i64 (q.id : Int)) := cell_in hX 0 _ rfl
      have x1 : (w2.alloc (pcObj q)).cell? ⟨w2.heap.size, 1, none⟩ = some (.int .i64 (q.no : Int)) := cell_in hX 1 _ rfl
      have x2 : (w2.alloc (pcObj q)).cell? ⟨w2.heap.size, 2, none⟩ = some (.int .i64 (q.size : Int)) := cell_in hX 2 _ rfl
      have x3 : (w2.alloc (pcObj q)).cell? ⟨w2.heap.size, 3, none⟩ = some (.int .u32 (q.sum : Int)) := cell_in hX 3 _ rfl
      have x4 : (w2.alloc (pcObj q)).cell? ⟨w2.heap.size, 4, none⟩ = some (.string q.part) := cell_in hX 4 _ rfl
      unfold Pc.val
      have hW : ∀ V : World, V.alloc (.cells #[.int .i64 (q.id : Int), .int .i64 (q.no : Int), .int .i64 (q.size : Int), .int .u32 (q.sum : Int), .string q.part] 126) = V.alloc (pcObj q) := fun _ => rfl
      clear d1 d2 d3 k2 hK3 hpr hpr2 b2 b2a hX e0 s0 cR
      go_wp2_with (at_builtin; refine wpList_append_row pc_len pc_one Tryz.underlying75 Tryz.info126 rfl (by decide) (by decide) _ rfl _ _ rfl W.heap.size _ L [q] rfl hpr3 ⟨(w2.alloc (pcObj q)).heap.size, 0, none⟩ 1 (by simp; rfl) hsrc (by simp; omega) hB3 ?_; intro v' w5 hpr5 hfr hnew)
      have d5 : Dx W w5 hb p g (bd + 3 * k + 3) n m H (fun j => (G j ∨ Ft rb mb rs vf j) ∨ v'.ownBlock = some j) := HD3.out.1.own hfr (fun j e => Or.inl (Or.inr e)) (fun j e => by
        rcases e with e | e
        · exact ⟨Or.inl (Or.inl e), Nat.lt_of_lt_of_le (HD3.out.1.lt (Or.inl e)) hfr.size⟩
        · refine ⟨?_, (hpr5.blk e).2⟩
          rcases hnew j e with z | z
          · exact Or.inl (Or.inr z)
          · exact Or.inr z)
      have hK5 : Keep (fun j => G j ∨ Ft rb mb rs vf j) w w5 := HD3.out.2.trans (fun j e => hfr.block j (HD3.out.1.lt (Or.inl e)) (fun z => hoff.out j z e))
      have ho5 : ∀ j, v'.ownBlock = some j → ¬ (G j ∨ Ft rb mb rs vf j) := fun j e z => by
        rcases hnew j e with y | y
        · exact hoff.out j y z
        · have := HD3.out.1.lt (Or.inl z); omega
      have HF := (show Hid _ from And.intro d5 (And.intro hK5 ho5))
      clear d5 hK5 ho5 hfr hnew
      go_roundw
      case rel => exact ⟨k + 1, by omega, by go_num, by rw [HT1.out]; exact hpr5, HF.out.2.2, HF.out.1, HF.out.2.1⟩
      case measure => simp [Go.RowKit.intOf]; omega
    · obtain rfl : k = ks.length := by omega
      rw [hlen, HTL.out] at hpr
      have cJ2 := cJ _ _ wr hpr
      have hlt2 : decide ((ks.length : Int) < (ks.length : Int)) = false := by simp
      have HX : Hid (Got W w wr rb hb p g (bd + 36) n m mb wv vf H rs G) := by
        have hK := hk1.out
        refine ⟨HR.out.move ((d1.less (fun j z => Or.inl z)).mono (by omega)) hK, hK.less (fun j z => Or.inl z)⟩
      obtain ⟨ta, tc, rfl, _, _⟩ := hpr.len
      clear d1 cJ hpr
      go_wp2_with fail
      refine cJ2.mono ?_
      rintro e w4 ⟨rfl, b4⟩
      clear cJ2
      go_wp2_with fail
      go_ret2
      exact ⟨rfl, HX.out.rm.below b4, HX.out.keep.trans ((HX.out.rm.dx.keep b4).less (fun j z => Or.inl z))⟩
end

end Go.Proofs.YtkjioabhdglkpaaGreat
end

section
namespace Go.Proofs.YtkjioabhdglkpaaGreat
open Go.RowKit

/-- Rows behind a call. -/
structure Rz' (W w w' : World) (rb hb p g bd n m : Nat) (rs : List Ro) (G : Nat → Prop) : Prop where
  rz : Rz W w' rb hb p g bd n m rs G
  keep : Keep G w w'

theorem erase_ids {rs : List Ro} (h : Rise rs) (id : Nat) : ∀ i, i ∈ idsR (delRo rs id) ↔ i ∈ (idsR rs).erase (id : Int) := by
  intro i
  rw [(ids_nodup h).mem_erase_iff, ids_mem, ids_mem]
  constructor
  · rintro ⟨x, hx, e⟩
    obtain ⟨a, b⟩ := mem_delRo.1 hx
    exact ⟨fun q => b (by omega), x, a, e⟩
  · rintro ⟨q, x, hx, e⟩
    exact ⟨x, mem_delRo.2 ⟨hx, fun z => q (by rw [← e, z])⟩, e⟩

section
variable {W w w' : World} {rb hb p g bd n m mb : Nat} {wv : Value} {vf : Int → Value} {H : Hp} {rs : List Ro} {G : Nat → Prop}

theorem wv_ints (w : World) (Gi : Nat → Prop) (wa : Option Addr) (wc : Nat) : IntsAt w Gi (.slice wa 0 wc) (([] : List (Int × ByteArray)).map Prod.fst) := Or.inl ⟨wa, wc, rfl, rfl⟩

/-- A row's places, as numbers in a block of its own. -/
theorem Rm.ints (h : Rm W w rb hb p g bd n m mb wv vf H rs G) {x : Ro} (hx : x ∈ rs) : IntsAt w (fun k => (vf (x.id : Int)).ownBlock = some k) (vf (x.id : Int)) ((rowsE x).map Prod.fst) := by
  rw [rowsE_fst (h.ok x hx)]
  exact (h.row x hx).ints (fun k e => e)
theorem Rm.sub (h : Rm W w rb hb p g bd n m mb wv vf H rs G) {x : Ro} (hx : x ∈ rs) : ∀ k, (vf (x.id : Int)).ownBlock = some k → (G k ∨ Ft rb mb rs vf k) ∧ k ≠ rb := fun _ e => ⟨Or.inr (Rm.roF hx e), (h.ro_ne hx e).1⟩
theorem Rm.gne (h : Rm W w rb hb p g bd n m mb wv vf H rs G) {k : Nat} (hk : G k) : k ≠ rb ∧ k ≠ mb := ⟨fun e => h.ap k (by rw [e]; exact Rm.rbF) hk, fun e => h.ap k (by rw [e]; exact Rm.mbF) hk⟩
theorem ft_del {id : Nat} {k : Nat} (q : Ft rb mb (delRo rs id) vf k) : Ft rb mb rs vf k := by
  rcases q with q | q | ⟨y, hy, e⟩
  · exact Or.inl q
  · exact Or.inr (Or.inl q)
  · exact Rm.roF (mem_delRo.1 hy).1 e
/-- A row is taken out of the map. -/
theorem Rm.drop (h : Rm W w rb hb p g bd n m mb wv vf H rs G) {w' : World} (id : Nat) (f : Fr (fun k => k = mb) w w') (hmp : IMap w' mb ((idsR rs).erase (id : Int)) vf) : Rm W w' rb hb p g bd n m mb wv vf H (delRo rs id) G ∧ Keep (fun k => (G k ∨ Ft rb mb rs vf k) ∧ k ≠ mb) w w' := by
  have hk : Keep (fun k => (G k ∨ Ft rb mb rs vf k) ∧ k ≠ mb) w w' := fun k q => f.block k (h.dx.lt q.1) q.2
  have hsub : ∀ k, Ft rb mb (delRo rs id) vf k → Ft rb mb rs vf k := fun k q => by
    rcases q with q | q | ⟨y, hy, e⟩
    · exact Or.inl q
    · exact Or.inr (Or.inl q)
    · exact Rm.roF (mem_delRo.1 hy).1 e
  refine ⟨⟨h.dx.own f (fun k q => Or.inl (Or.inr (by rw [q]; exact Rm.mbF))) (fun k q => ?_), (hk rb ⟨Or.inr Rm.rbF, Ne.symm h.mb_ne⟩).trans h.top, hmp.congr (erase_ids h.rise id) (ids_nodup (rise_del h.rise id)) (fun _ _ => rfl), fun y hy => ?_, fun y hy => h.ok y (mem_delRo.1 hy).1, rise_del h.rise id, fun k q => h.ap k (hsub k q)⟩, hk⟩
  · have q2 : G k ∨ Ft rb mb rs vf k := q.imp (fun z => z) (hsub k)
    exact ⟨Or.inl q2, Nat.lt_of_lt_of_le (h.dx.lt q2) f.size⟩
  · have hy2 := (mem_delRo.1 hy).1
    exact (h.row y hy2).kept (fun j e => hk j ⟨Or.inr (Rm.roF hy2 e), (h.ro_ne hy2 e).2⟩)

theorem rowsE_cons {x : Ro} (h : Rok x) : ∃ k r M, rowsE x = (k, r) :: M ∧ M.length ≤ 11 := by
  have hl := rowsE_len h
  have h1 := cnt_pos x.text.size
  have h2 := h.text
  cases hE : rowsE x with
  | nil => rw [hE] at hl; simp at hl; omega
  | cons y M =>
    refine ⟨y.1, y.2, M, rfl, ?_⟩
    rw [hE, List.length_cons] at hl
    unfold cntN at hl
    omega

set_option maxHeartbeats 1600000 in
set_option maxRecDepth 100000 in
theorem rodel_yes (h : Rz W w rb hb p g bd n m rs G) (hbd : bd ≤ 5000000) (hm : 2 ≤ m) {x : Ro} (hx : x ∈ rs) :
    Calls Tryz.prog 15 #[.pointer (some ⟨rb, 0, none⟩), .int .i64 (x.id : Int)] w fun e w' => e = .returned (.int .i64 0) ∧ Rz' W w w' rb hb p g (bd + 108) n m (delRo rs x.id) G := by
  obtain ⟨mb, wa, wc, vf, H, r0, hp0⟩ := h.ex
  have cS := sweep_any (M := []) r0.dx (by simp; omega) hm (Or.inr Rm.rbF) r0.top (wv_ints w _ wa wc) (by simpa using hp0)
  have HR := (show Hid _ from r0)
  clear h r0 hp0
  go_enter Tryz.func15, Tryz.ntmps15
  go_wp2_with fail
  refine cS.mono ?_
  rintro e w1 ⟨rfl, ⟨H1, wa1, wc1, d1, t1, p1, k1⟩⟩
  have r1 := HR.out.top' d1 t1 k1
  have hok := r1.ok x hx
  obtain ⟨k0, s0, M, hE, hM⟩ := rowsE_cons hok
  obtain ⟨_, c1, _, _⟩ := rcells r1.top
  have hl := r1.mp.look_yes (t := 71) Tryz.underlying71 (zero_ints w1) (ids_mem.2 ⟨x, hx, rfl⟩) true
  have hI := r1.ints hx
  have hp1 : (ent n H1).Perm (rowsE x ++ owned (delRo rs x.id)) := p1.trans ((owned_perm (del_perm r1.rise hx)).trans (by rw [owned_cons]))
  rw [hE] at hI hp1
  have cT := retire_any (r1.sub hx) r1.dx (by simp; omega) hm (Or.inr Rm.rbF) r1.top hI hp1
  obtain ⟨va, vc, hv, _, _⟩ := (r1.row x hx).len
  have hid : i64B (x.id : Int) := r1.mp.rng _ (ids_mem.2 ⟨x, hx, rfl⟩)
  have HR1 := (show Hid _ from r1)
  have HK1 := (show Hid _ from k1)
  have HV := (show Hid _ from hv)
  rw [hv] at hl cT
  clear hI hp1 hok p1 d1 t1 k1 r1 hv cS HR
  go_wp2_with fail
  refine cT.mono ?_
  rintro e w2 ⟨rfl, ⟨H2, wv2, d2, t2, i2, p2, k2⟩⟩
  have r2 := HR1.out.top' d2 t2 k2
  obtain ⟨_, c2, _, _⟩ := rcells r2.top
  have hmp2 := r2.mp
  have hlen2 : (idsR rs).length < 1000000 ∨ True := Or.inr trivial
  have HR2 := (show Hid _ from r2)
  have HI2 : Hid (IntsAt w2 (fun k => (vf (x.id : Int)).ownBlock = some k) wv2 (M.map Prod.fst)) := by show IntsAt _ _ _ _; rw [HV.out]; exact i2
  have HP2 := (show Hid _ from p2)
  have HK2 := (show Hid _ from k2)
  clear cT d2 t2 i2 p2 k2 r2 hl c1 hlen2
  go_wp2_with (at_delete; refine wpList_drop _ rfl _ _ 71 66 rfl Tryz.underlying71 mb (idsR rs) vf hmp2 (x.id : Int) rfl rfl hid ?_; intro w3 mp3 f3)
  obtain ⟨r3, k3⟩ := HR2.out.drop x.id f3 mp3
  have dB : Dx W w3 hb p g (bd + 9 * ([] : List (Int × ByteArray)).length + 9) n m H2 (fun k => G k ∨ Ft rb mb rs vf k) := HR2.out.dx.own f3 (fun k q => Or.inl (Or.inr (by rw [q]; exact Rm.mbF))) (fun k q => ⟨Or.inl q, Nat.lt_of_lt_of_le (HR2.out.dx.lt q) f3.size⟩)
  have i3 := IntsAt.kept HI2.out (k3.less (fun k e => ⟨Or.inr (Rm.roF hx e), (HR2.out.ro_ne hx e).2⟩))
  have cS3 := sweep_any dB (by simp; omega) hm (Or.inr Rm.rbF) r3.top (i3.more (HR2.out.sub hx)) HP2.out
  have HR3 := (show Hid _ from r3)
  have HK3 := (show Hid _ from k3)
  clear r3 k3 dB i3 f3 mp3
  refine cS3.mono ?_
  rintro e w4 ⟨rfl, ⟨H4, wa4, wc4, d4, t4, p4, k4⟩⟩
  have r4 := HR3.out.top' ((d4.less (G' := fun k => G k ∨ Ft rb mb (delRo rs x.id) vf k) (fun k q => q.imp (fun z => z) ft_del)).mono (c := bd + 108) (by simp; omega)) t4 (k4.less (fun k q => ⟨q.1.imp (fun z => z) ft_del, q.2⟩))
  have hgn := fun k (hk : G k) => HR1.out.gne hk
  have hK : Keep G w w4 := ((((Keep.less HK1.out) (fun k q => ⟨Or.inl q, (hgn k q).1⟩)).trans (Keep.less HK2.out (fun k q => ⟨Or.inl q, (hgn k q).1⟩))).trans (Keep.less HK3.out (fun k q => ⟨Or.inl q, (hgn k q).2⟩))).trans (k4.less (fun k q => ⟨Or.inl q, (hgn k q).1⟩))
  have HX : Hid (Rz' W w w4 rb hb p g (bd + 108) n m (delRo rs x.id) G) := ⟨⟨mb, wa4, wc4, vf, H4, r4, p4⟩, hK⟩
  clear r4 hK d4 t4 p4 k4 cS3
  go_wp2_with fail
  go_ret
  exact ⟨rfl, HX.out⟩

set_option maxHeartbeats 800000 in
set_option maxRecDepth 100000 in
theorem rodel_no (h : Rz W w rb hb p g bd n m rs G) (hbd : bd ≤ 5000000) (hm : 2 ≤ m) {i : Int} (hi : i64B i) (hx : i ∉ idsR rs) :
    Calls Tryz.prog 15 #[.pointer (some ⟨rb, 0, none⟩), .int .i64 i] w fun e w' => e = .returned (.int .i64 60) ∧ Rz' W w w' rb hb p g bd n m rs G := by
  obtain ⟨mb, wa, wc, vf, H, r0, hp0⟩ := h.ex
  have cS := sweep_any (M := []) r0.dx (by simp; omega) hm (Or.inr Rm.rbF) r0.top (wv_ints w _ wa wc) (by simpa using hp0)
  have HR := (show Hid _ from r0)
  clear h r0 hp0
  go_enter Tryz.func15, Tryz.ntmps15
  go_wp2_with fail
  refine cS.mono ?_
  rintro e w1 ⟨rfl, ⟨H1, wa1, wc1, d1, t1, p1, k1⟩⟩
  have r1 := HR.out.top' (d1.mono (c := bd) (by simp)) t1 k1
  obtain ⟨_, c1, _, _⟩ := rcells r1.top
  have hl := r1.mp.look_no (t := 71) Tryz.underlying71 (zero_ints w1) hi hx true
  have HX : Hid (Rz' W w w1 rb hb p g bd n m rs G) := ⟨⟨mb, wa1, wc1, vf, H1, r1, p1⟩, k1.less (fun k q => ⟨Or.inl q, (HR.out.gne q).1⟩)⟩
  clear d1 t1 p1 k1 r1 cS HR
  go_wp2_with fail
  go_ret
  exact ⟨rfl, HX.out⟩
end

end Go.Proofs.YtkjioabhdglkpaaGreat
end

section
namespace Go.Proofs.YtkjioabhdglkpaaGreat
open Go.RowKit

/-- What Put leaves where it is not refused at once. -/
structure Pput (W w w' : World) (rb hb p g bd n m : Nat) (rs : List Ro) (G : Nat → Prop) (id : Nat) (text : ByteArray) (X : Int) : Prop where
  out : (X = 0 ∧ ∃ ks, Rok ⟨id, text, ks⟩ ∧ Rz' W w w' rb hb p g bd n m (putRo rs ⟨id, text, ks⟩) G) ∨ (X = 50 ∧ n ≤ pieN rs + cntN text.size ∧ Rz' W w w' rb hb p g bd n m rs G)

theorem pcs_ok {id : Nat} {text : ByteArray} (h1 : 1 ≤ id ∧ id ≤ 4611686018427387903) (h2 : text.size ≤ 4000) : ∀ q ∈ pcsN id text, q.Ok := fun q hq => by
  obtain ⟨a, ha, rfl⟩ := pcs_mem hq
  exact pc_ok h1 h2 ha

section
variable {W w w' : World} {rb hb p g bd n m mb : Nat} {wv : Value} {vf : Int → Value} {H : Hp} {rs : List Ro} {G : Nat → Prop}

set_option maxHeartbeats 800000 in
theorem roput_arg (rb : Nat) (i : Int) (text : ByteArray) (w : World) (hi : i < 1 ∨ 4611686018427387903 < i) : Calls Tryz.prog 12 #[.pointer (some ⟨rb, 0, none⟩), .int .i64 i, .string text] w fun e w' => e = .returned (.int .i64 1) ∧ w' = w := by
  by_cases h1 : i < 1
  · have d1 : decide (i < 1) = true := by simpa using h1
    clear hi
    go_enter Tryz.func12, Tryz.ntmps12
    go_wp2_with fail
    all_goals go_ret
    all_goals exact ⟨rfl, rfl⟩
  · have d1 : decide (i < 1) = false := by simpa using h1
    have d2 : decide (4611686018427387903 < i) = true := by simp; omega
    clear hi
    go_enter Tryz.func12, Tryz.ntmps12
    go_wp2_with fail
    all_goals go_ret
    all_goals exact ⟨rfl, rfl⟩
set_option maxHeartbeats 800000 in
theorem roput_long (rb : Nat) (i : Int) (text : ByteArray) (w : World) (h1 : 1 ≤ i) (h2 : i ≤ 4611686018427387903) (h3 : 4000 < text.size) : Calls Tryz.prog 12 #[.pointer (some ⟨rb, 0, none⟩), .int .i64 i, .string text] w fun e w' => e = .returned (.int .i64 2) ∧ w' = w := by
  have d1 : decide (i < 1) = false := by simp; omega
  have d2 : decide (4611686018427387903 < i) = false := by simp; omega
  have d3 : decide ((4000 : Int) < (text.size : Int)) = true := by simp; omega
  clear h1 h2
  go_enter Tryz.func12, Tryz.ntmps12
  go_wp2_with fail
  all_goals go_ret
  all_goals exact ⟨rfl, rfl⟩

theorem ft_put {x : Ro} {vp : Value} (h : Rise rs) {k : Nat} (q : Ft rb mb (putRo rs x) (updI vf (x.id : Int) vp) k) : Ft rb mb rs vf k ∨ vp.ownBlock = some k := by
  rcases q with q | q | ⟨y, hy, e⟩
  · exact Or.inl (Or.inl q)
  · exact Or.inl (Or.inr (Or.inl q))
  · rcases (mem_putRo h x y).1 hy with rfl | hy
    · unfold updI at e
      rw [if_pos rfl] at e
      exact Or.inr e
    · obtain ⟨a, b⟩ := mem_delRo.1 hy
      unfold updI at e
      rw [if_neg (by omega)] at e
      exact Or.inl (Rm.roF a e)
theorem ids_put {x : Ro} (h : Rise rs) (i : Int) : i ∈ idsR (putRo rs x) ↔ i = (x.id : Int) ∨ i ∈ idsR rs := by
  rw [ids_mem, ids_mem]
  constructor
  · rintro ⟨y, hy, e⟩
    rcases (mem_putRo h x y).1 hy with rfl | hy
    · exact Or.inl e.symm
    · exact Or.inr ⟨y, (mem_delRo.1 hy).1, e⟩
  · intro q
    by_cases z : i = (x.id : Int)
    · exact ⟨x, (mem_putRo h x x).2 (Or.inl rfl), z.symm⟩
    · rcases q with q | ⟨y, hy, e⟩
      · exact absurd q z
      · exact ⟨y, (mem_putRo h x y).2 (Or.inr (mem_delRo.2 ⟨hy, fun q => z (by rw [← e, q])⟩)), e⟩
/-- A row is laid into the map. -/
theorem Rm.lay (h : Rm W w rb hb p g bd n m mb wv vf H rs G) (x : Ro) (vp : Value) (hrow : IRow w W.heap.size vp x.ks) (hoff : ∀ k, vp.ownBlock = some k → ¬ (G k ∨ Ft rb mb rs vf k)) (dB : Dx W w hb p g bd n m H (fun k => (G k ∨ Ft rb mb rs vf k) ∨ vp.ownBlock = some k)) (hok : Rok x)
    (f : Fr (fun k => k = mb) w w') {ks' : List Int} (hmp : IMap w' mb ks' (updI vf (x.id : Int) vp)) (hks : ∀ i, i ∈ ks' ↔ i = (x.id : Int) ∨ i ∈ idsR rs) :
    Rm W w' rb hb p g bd n m mb wv (updI vf (x.id : Int) vp) H (putRo rs x) G ∧ Dx W w' hb p g bd n m H (fun k => (G k ∨ Ft rb mb rs vf k) ∨ vp.ownBlock = some k) ∧ Keep (fun k => ((G k ∨ Ft rb mb rs vf k) ∨ vp.ownBlock = some k) ∧ k ≠ mb) w w' := by
  have hk : Keep (fun k => ((G k ∨ Ft rb mb rs vf k) ∨ vp.ownBlock = some k) ∧ k ≠ mb) w w' := fun k q => f.block k (dB.lt q.1) q.2
  have dB' : Dx W w' hb p g bd n m H (fun k => (G k ∨ Ft rb mb rs vf k) ∨ vp.ownBlock = some k) := dB.own f (fun k q => Or.inl (Or.inl (Or.inr (by rw [q]; exact Rm.mbF)))) (fun k q => ⟨Or.inl q, Nat.lt_of_lt_of_le (dB.lt q) f.size⟩)
  have hvm : ∀ k, vp.ownBlock = some k → k ≠ mb := fun k e z => hoff k e (Or.inr (by rw [z]; exact Rm.mbF))
  refine ⟨⟨dB'.less (fun k q => ?_), (hk rb ⟨Or.inl (Or.inr Rm.rbF), Ne.symm h.mb_ne⟩).trans h.top, hmp.congr (fun i => (ids_put h.rise i).trans (hks i).symm) (ids_nodup (rise_put h.rise x)) (fun _ _ => rfl), fun y hy => ?_, fun y hy => ?_, rise_put h.rise x, fun k q => ?_⟩, dB', hk⟩
  · rcases q with q | q
    · exact Or.inl (Or.inl q)
    · exact (ft_put h.rise q).imp Or.inr (fun z => z)
  · rcases (mem_putRo h.rise x y).1 hy with rfl | hy
    · unfold updI
      rw [if_pos rfl]
      exact hrow.kept (fun j e => hk j ⟨Or.inr e, hvm j e⟩)
    · obtain ⟨a, b⟩ := mem_delRo.1 hy
      unfold updI
      rw [if_neg (by omega)]
      exact (h.row y a).kept (fun j e => hk j ⟨Or.inl (Or.inr (Rm.roF a e)), (h.ro_ne a e).2⟩)
  · rcases (mem_putRo h.rise x y).1 hy with rfl | hy
    · exact hok
    · exact h.ok y (mem_delRo.1 hy).1
  · rcases ft_put h.rise q with z | z
    · exact h.ap k z
    · exact fun y => hoff k z (Or.inl y)

/-- Pieces that were put in are a row's. -/
theorem new_row {id : Nat} {text : ByteArray} (h1 : 1 ≤ id ∧ id ≤ 4611686018427387903) (h2 : text.size ≤ 4000) {M : List (Int × ByteArray)} (hM : M.map Prod.snd = ((pcsN id text).take M.length).map pb) (hl : M.length = (pcsN id text).length) : Rok ⟨id, text, M.map Prod.fst⟩ ∧ rowsE ⟨id, text, M.map Prod.fst⟩ = M := by
  refine ⟨⟨h1, h2, by rw [← pcs_len id]; simpa using hl⟩, ?_⟩
  rw [hl, List.take_length] at hM
  unfold rowsE
  simp only
  rw [← hM]
  exact zip_back M

set_option maxHeartbeats 3200000 in
set_option maxRecDepth 100000 in
theorem roput_new (h : Rz W w rb hb p g bd n m rs G) (hbd : bd + 12 * (6 * n + 10) ≤ 5000000) (hm : 2 ≤ m) (hn : 1 ≤ n) (hlen : rs.length ≤ 4000) {id : Nat} (h1 : 1 ≤ id ∧ id ≤ 4611686018427387903) {text : ByteArray} (h2 : text.size ≤ 4000) (hx : (id : Int) ∉ idsR rs) :
    Calls Tryz.prog 12 #[.pointer (some ⟨rb, 0, none⟩), .int .i64 (id : Int), .string text] w fun e w' => ∃ X, e = .returned (.int .i64 X) ∧ Pput W w w' rb hb p g (bd + 12 * (6 * n + 10) + 216) n m rs G id text X := by
  obtain ⟨mb, wa, wc, vf, H, r0, hp0⟩ := h.ex
  have hi : i64B (id : Int) := ⟨by omega, by omega⟩
  have cS := sweep_any (M := []) r0.dx (by simp; omega) hm (Or.inr Rm.rbF) r0.top (wv_ints w _ wa wc) (by simpa using hp0)
  obtain ⟨_, c1, _, _⟩ := rcells r0.top
  have hl := r0.mp.look_no (t := 71) Tryz.underlying71 (zero_ints w) hi hx true
  have hz := r0.mp.size (t := 71) Tryz.underlying71
  have d1 : decide ((id : Int) < 1) = false := by simp; omega
  have d2 : decide (4611686018427387903 < (id : Int)) = false := by simp; omega
  have d3 : decide ((4000 : Int) < (text.size : Int)) = false := by simp; omega
  have d4 : decide ((4096 : Int) ≤ ((idsR rs).length : Int)) = false := by unfold idsR; simp; omega
  have HR := (show Hid _ from r0)
  clear h r0 hp0
  go_enter Tryz.func12, Tryz.ntmps12
  go_wp2_with fail
  refine cS.mono ?_
  rintro e w1 ⟨rfl, ⟨H1, wa1, wc1, e1, t1, p1, k1⟩⟩
  have r1 := HR.out.top' (e1.mono (c := bd) (by simp)) t1 k1
  have cP := split_any id h1.2 text (by omega) w1
  have HR1 := (show Hid _ from r1)
  have HK1 : Hid (Keep (fun k => (G k ∨ Ft rb mb rs vf k) ∧ k ≠ rb) w w1) := k1
  have HP1 := (show Hid _ from p1)
  clear e1 t1 p1 k1 cS hl hz c1 r1
  go_wp2_with fail
  refine cP.mono ?_
  rintro e w2 ⟨vl, rfl, pr2, b2⟩
  have r2 := HR1.out.below b2
  have dB : Dx W w2 hb p g bd n m H1 (fun k => (G k ∨ Ft rb mb rs vf k) ∨ vl.ownBlock = some k) := HR1.out.dx.own (F := fun _ => False) (Fr.of_below b2) (fun _ q => q.elim) (fun k q => by
    rcases q with q | q
    · exact ⟨Or.inl q, Nat.lt_of_lt_of_le (HR1.out.dx.lt q) b2.size⟩
    · exact ⟨Or.inr (pr2.blk q).1, (pr2.blk q).2⟩)
  have hll := pcs_len id text
  have hc12 : cntN text.size ≤ 12 := by unfold cntN; omega
  have hmul : (pcsN id text).length * (6 * n + 10) ≤ 12 * (6 * n + 10) := Nat.mul_le_mul_right _ (by omega)
  have cI := rins_any dB (by omega) hm (Or.inl (Or.inr Rm.rbF)) r2.top pr2 (fun k e => Or.inr e) (pcs_ok h1 h2) (by omega)
  have HMU := (show Hid _ from And.intro hll (And.intro hc12 hmul))
  have HR2 := (show Hid _ from r2)
  have HPL : Hid (vl = vl ∧ ∀ k, vl.ownBlock = some k → w1.heap.size ≤ k) := ⟨rfl, fun k e => (pr2.blk e).1⟩
  have HK2 : Hid (Keep (fun k => G k ∨ Ft rb mb rs vf k) w1 w2) := HR1.out.dx.keep b2
  obtain ⟨la, lc, rfl, _, _⟩ := pr2.len
  clear cP dB hll hc12 hmul r2 pr2 b2
  go_wp2_with fail
  refine cI.mono ?_
  rintro e w3 ⟨vp, X, rfl, ⟨M, H3, m3, row3, off3, d3, p3, k3, q3⟩⟩
  have hK3 : Keep (fun k => G k ∨ Ft rb mb rs vf k) w2 w3 := k3.less (fun k q => Or.inl q)
  have r3 := HR2.out.move (d3.less (fun k q => Or.inl (Or.inl q))) hK3
  have hB4 : bd + (pcsN id text).length * (6 * n + 10) ≤ bd + 12 * (6 * n + 10) := by have := HMU.out.2.2; omega
  have hp4 : (ent n H3).Perm (M ++ owned rs) := p3.trans (List.Perm.append_left _ HP1.out)
  have hgn := fun k (hk : G k) => HR1.out.gne hk
  have hK03 : Keep G w w3 := ((Keep.less HK1.out (fun k q => ⟨Or.inl q, (hgn k q).1⟩)).trans (Keep.less HK2.out (fun k q => Or.inl q))).trans (hK3.less (fun k q => Or.inl q))
  rcases q3 with ⟨rfl, hM⟩ | ⟨rfl, hM, hfull⟩
  · obtain ⟨ok4, e4⟩ := new_row h1 h2 m3 hM
    have mp3 := r3.mp
    have hlen3 : (idsR rs).length < 1000000 := by unfold idsR; simp; omega
    obtain ⟨_, c3, _, _⟩ := rcells r3.top
    have dB3 := (d3.less (G' := fun k => (G k ∨ Ft rb mb rs vf k) ∨ vp.ownBlock = some k) (fun k q => q.imp Or.inl (fun z => z))).mono hB4
    have off3' : ∀ k, vp.ownBlock = some k → ¬ (G k ∨ Ft rb mb rs vf k) := fun k e z => off3 k e (Or.inl z)
    have HX := (show Hid _ from And.intro (r3.mono hB4) (And.intro dB3 (And.intro off3' (And.intro row3 (And.intro ok4 (And.intro e4 (And.intro hp4 hK03)))))))
    clear d3 p3 k3 m3 row3 off3 off3' dB3 r3 ok4 e4 hp4 hK03 hK3 cI
    have HM := (show Hid _ from hM)
    clear hM
    go_wp2_with (at_mapUpdate; refine wpList_store _ rfl _ _ _ 71 66 rfl Tryz.underlying71 mb (idsR rs) vf mp3 hlen3 (id : Int) vp rfl rfl hi rfl ?_; intro w4 mp4 mp4' f4)
    obtain ⟨r3, dB3, off3, row3, ok4, e4, hp4, hK03⟩ := HX.out
    obtain ⟨r4, _, k4⟩ := r3.lay ⟨id, text, M.map Prod.fst⟩ vp row3 off3 dB3 ok4 f4 (mp4' hx) (fun i => List.mem_cons)
    have hp5 : (ent n H3).Perm ([] ++ owned (putRo rs ⟨id, text, M.map Prod.fst⟩)) := by
      refine hp4.trans ?_
      have h1 := owned_perm (put_perm r3.rise ⟨id, text, M.map Prod.fst⟩)
      rw [owned_cons, e4, delRo_no (fun y hy q => hx (ids_mem.2 ⟨y, hy, by rw [q]⟩))] at h1
      exact h1.symm
    have cS4 := sweep_any (M := []) r4.dx (by simp; omega) hm (Or.inr Rm.rbF) r4.top (wv_ints w4 _ wa1 wc1) hp5
    have hgn2 := fun k (hk : G k) => r3.gne hk
    have HY := (show Hid _ from And.intro r4 (And.intro k4 (And.intro ok4 (And.intro hK03 hgn2))))
    clear mp4 mp4' f4 r3 dB3 off3 row3 ok4 e4 hp4 hK03 r4 k4 hp5 mp3 hgn2
    refine cS4.mono ?_
    rintro e w5 ⟨rfl, ⟨H5, wa5, wc5, d5, t5, p5, k5⟩⟩
    obtain ⟨r4, k4, ok4, hK03, hgn2⟩ := HY.out
    have r5 := r4.top' (d5.mono (c := bd + 12 * (6 * n + 10) + 216) (by simp)) t5 k5
    have hK : Keep G w w5 := (hK03.trans (k4.less (fun k q => ⟨Or.inl (Or.inl q), (hgn2 k q).2⟩))).trans (k5.less (fun k q => ⟨Or.inl q, (hgn2 k q).1⟩))
    have HZ : Hid (Pput W w w5 rb hb p g (bd + 12 * (6 * n + 10) + 216) n m rs G id text 0) := ⟨Or.inl ⟨rfl, _, ok4, ⟨mb, wa5, wc5, _, H5, r5, p5⟩, hK⟩⟩
    clear r4 k4 ok4 hK03 hgn2 r5 hK d5 t5 p5 k5 cS4
    go_wp2_with fail
    go_ret
    exact ⟨_, rfl, HZ.out⟩
  · have hI3 := row3.ints (G := fun k => (((G k ∨ Ft rb mb rs vf k) ∨ (Value.slice la (pcsN id text).length lc).ownBlock = some k) ∨ vp.ownBlock = some k) ∧ k ≠ rb) (fun k e => ⟨Or.inr e, fun z => off3 k e (Or.inl (Or.inr (by rw [z]; exact Rm.rbF)))⟩)
    have hcc := HMU.out.1
    have hc12 := HMU.out.2.1
    have cT := takeBack_any d3 (by omega) hm (Or.inl (Or.inl (Or.inr Rm.rbF))) r3.top hI3 hp4
    have hfl : n ≤ pieN rs + cntN text.size := by
      have e1 := hp4.length_eq
      rw [List.length_append, owned_len r3.ok] at e1
      omega
    have HX := (show Hid _ from And.intro r3 (And.intro hfl (And.intro hK03 hgn)))
    have HLN := (show Hid _ from hM)
    clear d3 p3 k3 m3 row3 off3 r3 hp4 hK03 hK3 cI hfl hI3 hgn hM hfull
    go_wp2_with fail
    refine cT.mono ?_
    rintro e w4 ⟨rfl, ⟨H4, wa4, wc4, d4, t4, p4, k4⟩⟩
    obtain ⟨r3, hfl, hK03, hgn⟩ := HX.out
    have r4 := r3.top' ((d4.less (fun k q => Or.inl (Or.inl q))).mono (c := bd + 12 * (6 * n + 10) + 216) (by have := HLN.out; omega)) t4 (k4.less (fun k q => ⟨Or.inl (Or.inl q.1), q.2⟩))
    have hK : Keep G w w4 := hK03.trans (k4.less (fun k q => ⟨Or.inl (Or.inl (Or.inl q)), (hgn k q).1⟩))
    have HZ : Hid (Pput W w w4 rb hb p g (bd + 12 * (6 * n + 10) + 216) n m rs G id text 50) := ⟨Or.inr ⟨rfl, hfl, ⟨mb, wa4, wc4, _, H4, r4, p4⟩, hK⟩⟩
    clear r3 hfl hK03 hgn r4 hK d4 t4 p4 k4 cT
    go_wp2_with fail
    go_ret
    exact ⟨_, rfl, HZ.out⟩
end

end Go.Proofs.YtkjioabhdglkpaaGreat
end

section
namespace Go.Proofs.YtkjioabhdglkpaaGreat
open Go.RowKit

section
variable {W w w' : World} {rb hb p g bd n m mb : Nat} {wv : Value} {vf : Int → Value} {H : Hp} {rs : List Ro} {G : Nat → Prop}

set_option maxHeartbeats 3200000 in
set_option maxRecDepth 100000 in
theorem roput_old (h : Rz W w rb hb p g bd n m rs G) (hbd : bd + 12 * (6 * n + 10) ≤ 5000000) (hm : 2 ≤ m) (hn : 1 ≤ n) (hlen : rs.length ≤ 4000) {y : Ro} (hy : y ∈ rs) {text : ByteArray} (h2 : text.size ≤ 4000) :
    Calls Tryz.prog 12 #[.pointer (some ⟨rb, 0, none⟩), .int .i64 (y.id : Int), .string text] w fun e w' => ∃ X, e = .returned (.int .i64 X) ∧ Pput W w w' rb hb p g (bd + 12 * (6 * n + 10) + 216) n m rs G y.id text X := by
  obtain ⟨mb, wa, wc, vf, H, r0, hp0⟩ := h.ex
  have h1 := (r0.ok y hy).id
  obtain ⟨k0, s0, M0, hE, hM0⟩ := rowsE_cons (r0.ok y hy)
  have hin := ids_mem.2 ⟨y, hy, rfl⟩
  have HY0 : Hid (∃ i, y.id = i) := ⟨_, rfl⟩
  have hi : i64B (y.id : Int) := ⟨by omega, by omega⟩
  have cS := sweep_any (M := []) r0.dx (by simp; omega) hm (Or.inr Rm.rbF) r0.top (wv_ints w _ wa wc) (by simpa using hp0)
  obtain ⟨_, c1, _, _⟩ := rcells r0.top
  have hl := r0.mp.look_yes (t := 71) Tryz.underlying71 (zero_ints w) hin true
  have hz := r0.mp.size (t := 71) Tryz.underlying71
  have d1 : decide ((y.id : Int) < 1) = false := by simp; omega
  have d2 : decide (4611686018427387903 < (y.id : Int)) = false := by simp; omega
  have d3 : decide ((4000 : Int) < (text.size : Int)) = false := by simp; omega
  have d4 : decide ((4096 : Int) ≤ ((idsR rs).length : Int)) = false := by unfold idsR; simp; omega
  have HR := (show Hid _ from r0)
  clear h r0 hp0
  go_enter Tryz.func12, Tryz.ntmps12
  go_wp2_with fail
  refine cS.mono ?_
  rintro e w1 ⟨rfl, ⟨H1, wa1, wc1, e1, t1, p1, k1⟩⟩
  have r1 := HR.out.top' (e1.mono (c := bd) (by simp)) t1 k1
  have cP := split_any y.id h1.2 text (by omega) w1
  have HR1 := (show Hid _ from r1)
  have HK1 : Hid (Keep (fun k => (G k ∨ Ft rb mb rs vf k) ∧ k ≠ rb) w w1) := k1
  have HP1 := (show Hid _ from p1)
  clear e1 t1 p1 k1 cS hl hz c1 r1
  go_wp2_with fail
  refine cP.mono ?_
  rintro e w2 ⟨vl, rfl, pr2, b2⟩
  have r2 := HR1.out.below b2
  have dB : Dx W w2 hb p g bd n m H1 (fun k => (G k ∨ Ft rb mb rs vf k) ∨ vl.ownBlock = some k) := HR1.out.dx.own (F := fun _ => False) (Fr.of_below b2) (fun _ q => q.elim) (fun k q => by
    rcases q with q | q
    · exact ⟨Or.inl q, Nat.lt_of_lt_of_le (HR1.out.dx.lt q) b2.size⟩
    · exact ⟨Or.inr (pr2.blk q).1, (pr2.blk q).2⟩)
  have hll := pcs_len y.id text
  have hc12 : cntN text.size ≤ 12 := by unfold cntN; omega
  have hmul : (pcsN y.id text).length * (6 * n + 10) ≤ 12 * (6 * n + 10) := Nat.mul_le_mul_right _ (by omega)
  have cI := rins_any dB (by omega) hm (Or.inl (Or.inr Rm.rbF)) r2.top pr2 (fun k e => Or.inr e) (pcs_ok h1 h2) (by omega)
  have HMU := (show Hid _ from And.intro hll (And.intro hc12 hmul))
  have HR2 := (show Hid _ from r2)
  have HPL : Hid (vl = vl ∧ ∀ k, vl.ownBlock = some k → w1.heap.size ≤ k) := ⟨rfl, fun k e => (pr2.blk e).1⟩
  have HK2 : Hid (Keep (fun k => G k ∨ Ft rb mb rs vf k) w1 w2) := HR1.out.dx.keep b2
  obtain ⟨la, lc, rfl, _, _⟩ := pr2.len
  clear cP dB hll hc12 hmul r2 pr2 b2
  go_wp2_with fail
  refine cI.mono ?_
  rintro e w3 ⟨vp, X, rfl, ⟨M, H3, m3, row3, off3, d3, p3, k3, q3⟩⟩
  have hK3 : Keep (fun k => G k ∨ Ft rb mb rs vf k) w2 w3 := k3.less (fun k q => Or.inl q)
  have r3 := HR2.out.move (d3.less (fun k q => Or.inl (Or.inl q))) hK3
  have hB4 : bd + (pcsN y.id text).length * (6 * n + 10) ≤ bd + 12 * (6 * n + 10) := by have := HMU.out.2.2; omega
  have hp4 : (ent n H3).Perm (M ++ owned rs) := p3.trans (List.Perm.append_left _ HP1.out)
  have hgn := fun k (hk : G k) => HR1.out.gne hk
  have hK03 : Keep G w w3 := ((Keep.less HK1.out (fun k q => ⟨Or.inl q, (hgn k q).1⟩)).trans (Keep.less HK2.out (fun k q => Or.inl q))).trans (hK3.less (fun k q => Or.inl q))
  rcases q3 with ⟨rfl, hM⟩ | ⟨rfl, hM, hfull⟩
  · obtain ⟨ok4, e4⟩ := new_row h1 h2 m3 hM
    have mp3 := r3.mp
    have hlen3 : (idsR rs).length < 1000000 := by unfold idsR; simp; omega
    obtain ⟨_, c3, _, _⟩ := rcells r3.top
    have dB3 := (d3.less (G' := fun k => (G k ∨ Ft rb mb rs vf k) ∨ vp.ownBlock = some k) (fun k q => q.imp Or.inl (fun z => z))).mono hB4
    have off3' : ∀ k, vp.ownBlock = some k → ¬ (G k ∨ Ft rb mb rs vf k) := fun k e z => off3 k e (Or.inl z)
    have HX := (show Hid _ from And.intro (r3.mono hB4) (And.intro dB3 (And.intro off3' (And.intro row3 (And.intro ok4 (And.intro e4 (And.intro hp4 hK03)))))))
    have hI := r3.ints hy
    have hp5 : (ent n H3).Perm (((k0, s0) :: M0) ++ (M ++ owned (delRo rs y.id))) := by
      refine hp4.trans ?_
      have q1 := (owned_perm (del_perm r3.rise hy))
      rw [owned_cons, hE] at q1
      refine (List.Perm.append_left M q1).trans ?_
      rw [← List.append_assoc, ← List.append_assoc]
      exact List.Perm.append_right _ List.perm_append_comm
    rw [hE] at hI
    have cT := retire_any (Gi := fun k => (vf (y.id : Int)).ownBlock = some k) (fun k e => ⟨Or.inl (Or.inr (Rm.roF hy e)), (r3.ro_ne hy e).1⟩) dB3 (by omega) hm (Or.inl (Or.inr Rm.rbF)) r3.top hI hp5
    clear d3 p3 k3 m3 row3 off3 off3' dB3 r3 ok4 e4 hp4 hK03 hK3 cI hp5 hI
    have HM := (show Hid _ from hM)
    clear hM mp3 c3
    go_wp2_with fail
    refine cT.mono ?_
    rintro e w4 ⟨rfl, ⟨H4, wv4, d4, t4, i4, p4, k4⟩⟩
    obtain ⟨r3, dB3, off3, row3, ok4, e4, hp4, hK03⟩ := HX.out
    have hne : ∀ k, vp.ownBlock = some k → k ≠ rb := fun k e z => off3 k e (Or.inr (by rw [z]; exact Rm.rbF))
    have r4 := r3.top' (d4.less (fun k q => Or.inl q)) t4 (k4.less (fun k q => ⟨Or.inl q.1, q.2⟩))
    have row4 := row3.kept (fun k e => k4 k ⟨Or.inr e, hne k e⟩)
    have mp4 := r4.mp
    obtain ⟨_, c4, _, _⟩ := rcells r4.top
    have HZ4 := (show Hid _ from And.intro r4 (And.intro d4 (And.intro off3 (And.intro row4 (And.intro ok4 (And.intro e4 (And.intro p4 (And.intro i4 (And.intro k4 hK03)))))))))
    clear r3 dB3 off3 row3 ok4 e4 hp4 hK03 r4 row4 d4 t4 i4 p4 k4 cT hne HX
    go_wp2_with (at_mapUpdate; refine wpList_store _ rfl _ _ _ 71 66 rfl Tryz.underlying71 mb (idsR rs) vf mp4 hlen3 (y.id : Int) vp rfl rfl hi rfl ?_; intro w5 mp5 mp5' f5)
    obtain ⟨r4, d4, off3, row4, ok4, e4, p4, i4, k4, hK03⟩ := HZ4.out
    obtain ⟨r5, dB5, k5⟩ := r4.lay ⟨y.id, text, M.map Prod.fst⟩ vp row4 off3 d4 ok4 f5 (mp5 hin) (fun i => ⟨Or.inr, fun q => q.elim (fun e => by rw [e]; exact hin) (fun z => z)⟩)
    have hp6 : (ent n H4).Perm (M0 ++ owned (putRo rs ⟨y.id, text, M.map Prod.fst⟩)) := by
      refine p4.trans ?_
      have q1 := owned_perm (put_perm r4.rise ⟨y.id, text, M.map Prod.fst⟩)
      rw [owned_cons, e4] at q1
      exact List.Perm.append_left M0 q1.symm
    have hsub : ∀ k, (vf (y.id : Int)).ownBlock = some k → ((G k ∨ Ft rb mb rs vf k) ∨ vp.ownBlock = some k) ∧ k ≠ rb := fun k e => ⟨Or.inl (Or.inr (Rm.roF hy e)), (r4.ro_ne hy e).1⟩
    have i5 := IntsAt.kept i4 (k5.less (fun k e => ⟨(hsub k e).1, (r4.ro_ne hy e).2⟩))
    have cS4 := sweep_any dB5 (by omega) hm (Or.inl (Or.inr Rm.rbF)) r5.top (IntsAt.more i5 hsub) hp6
    have hgn2 := fun k (hk : G k) => r4.gne hk
    have hft := fun k (q : Ft rb mb (putRo rs ⟨y.id, text, M.map Prod.fst⟩) (updI vf (y.id : Int) vp) k) => ft_put (mb := mb) (rb := rb) (vf := vf) r4.rise (x := ⟨y.id, text, M.map Prod.fst⟩) q
    have HYY := (show Hid _ from And.intro r5 (And.intro k5 (And.intro ok4 (And.intro hK03 (And.intro hgn2 (And.intro hft k4))))))
    clear mp5 mp5' f5 r4 d4 off3 row4 ok4 e4 p4 i4 k4 hK03 r5 dB5 k5 hp6 hsub i5 hgn2 hft HZ4
    refine cS4.mono ?_
    rintro e w6 ⟨rfl, ⟨H5, wa5, wc5, d5, t5, p5, k6⟩⟩
    obtain ⟨r5, k5, ok4, hK03, hgn2, hft, k4⟩ := HYY.out
    have r6 := r5.top' ((d5.less (fun k q => q.elim (fun z => Or.inl (Or.inl z)) (fun z => (hft k z).imp Or.inr (fun u => u)))).mono (c := bd + 12 * (6 * n + 10) + 216) (by omega)) t5 (k6.less (fun k q => ⟨q.1.elim (fun z => Or.inl (Or.inl z)) (fun z => (hft k z).imp Or.inr (fun u => u)), q.2⟩))
    have hK : Keep G w w6 := ((hK03.trans (Keep.less k4 (fun k q => ⟨Or.inl (Or.inl q), (hgn2 k q).1⟩))).trans (k5.less (fun k q => ⟨Or.inl (Or.inl q), (hgn2 k q).2⟩))).trans (k6.less (fun k q => ⟨Or.inl (Or.inl q), (hgn2 k q).1⟩))
    have HZ : Hid (Pput W w w6 rb hb p g (bd + 12 * (6 * n + 10) + 216) n m rs G y.id text 0) := ⟨Or.inl ⟨rfl, _, ok4, ⟨mb, wa5, wc5, _, H5, r6, p5⟩, hK⟩⟩
    clear r5 k5 ok4 hK03 hgn2 hft k4 r6 hK d5 t5 p5 k6 cS4
    go_wp2_with fail
    go_ret
    exact ⟨_, rfl, HZ.out⟩
  · have hI3 := row3.ints (G := fun k => (((G k ∨ Ft rb mb rs vf k) ∨ (Value.slice la (pcsN y.id text).length lc).ownBlock = some k) ∨ vp.ownBlock = some k) ∧ k ≠ rb) (fun k e => ⟨Or.inr e, fun z => off3 k e (Or.inl (Or.inr (by rw [z]; exact Rm.rbF)))⟩)
    have hcc := HMU.out.1
    have hc12 := HMU.out.2.1
    have cT := takeBack_any d3 (by omega) hm (Or.inl (Or.inl (Or.inr Rm.rbF))) r3.top hI3 hp4
    have hfl : n ≤ pieN rs + cntN text.size := by
      have e1 := hp4.length_eq
      rw [List.length_append, owned_len r3.ok] at e1
      omega
    have HX := (show Hid _ from And.intro r3 (And.intro hfl (And.intro hK03 hgn)))
    have HLN := (show Hid _ from hM)
    clear d3 p3 k3 m3 row3 off3 r3 hp4 hK03 hK3 cI hfl hI3 hgn hM hfull
    go_wp2_with fail
    refine cT.mono ?_
    rintro e w4 ⟨rfl, ⟨H4, wa4, wc4, d4, t4, p4, k4⟩⟩
    obtain ⟨r3, hfl, hK03, hgn⟩ := HX.out
    have r4 := r3.top' ((d4.less (fun k q => Or.inl (Or.inl q))).mono (c := bd + 12 * (6 * n + 10) + 216) (by have := HLN.out; omega)) t4 (k4.less (fun k q => ⟨Or.inl (Or.inl q.1), q.2⟩))
    have hK : Keep G w w4 := hK03.trans (k4.less (fun k q => ⟨Or.inl (Or.inl (Or.inl q)), (hgn k q).1⟩))
    have HZ : Hid (Pput W w w4 rb hb p g (bd + 12 * (6 * n + 10) + 216) n m rs G y.id text 50) := ⟨Or.inr ⟨rfl, hfl, ⟨mb, wa4, wc4, _, H4, r4, p4⟩, hK⟩⟩
    clear r3 hfl hK03 hgn r4 hK d4 t4 p4 k4 cT
    go_wp2_with fail
    go_ret
    exact ⟨_, rfl, HZ.out⟩
end

end Go.Proofs.YtkjioabhdglkpaaGreat
end

section
namespace Go.Proofs.YtkjioabhdglkpaaGreat
open Go.RowKit Go.Maps

theorem nodup_leI {α : Type} [DecidableEq α] : ∀ (l A : List α), l.Nodup → (∀ x ∈ l, x ∈ A) → l.length ≤ A.length := by
  intro l
  induction l with
  | nil => intro A _ _; exact Nat.zero_le _
  | cons x l ih =>
    intro A hn hA
    have hx := hA x (by simp)
    have h1 := List.nodup_cons.1 hn
    have h2 := ih (A.erase x) h1.2 (fun y hy => by
      have hne : y ≠ x := fun e => h1.1 (e ▸ hy)
      exact (List.mem_erase_of_ne hne).2 (hA y (by simp [hy])))
    rw [List.length_erase_of_mem hx] at h2
    have := List.length_pos_of_mem hx
    simp
    omega
theorem grown_below {w w' : World} (h : Below w.heap.size w w') : w.grownBy w' none := ⟨h.os, h.tape, h.output, h.size, fun i hi _ => h.block i hi⟩
theorem grown_fr {w w' : World} {b : Nat} (h : Fr (fun k => k = b) w w') : w.grownBy w' (some b) := ⟨h.os, h.tape, h.output, h.size, fun i hi hne => h.block i hi (fun e => hne (by rw [e]))⟩
def rowV (bp bc cf : Int → Nat) (i : Int) : Value := .agg #[.slice (some ⟨bp i, 0, none⟩) (cf i) (cf i), .slice (some ⟨bc i, 0, none⟩) (cf i) (cf i)]
def plV (bp cf : Int → Nat) (i : Int) : Value := .slice (some ⟨bp i, 0, none⟩) (cf i) (cf i)
/-- The blocks of what was found. -/
def Fo (fm : Nat) (bp bc : Int → Nat) (rs : List Ro) (k : Nat) : Prop := k = fm ∨ ∃ x ∈ rs, k = bp (x.id : Int) ∨ k = bc (x.id : Int)
/-- What find has found: all rows. -/
structure Found (W w : World) (hb p g bd n m : Nat) (H : Hp) (rs : List Ro) (G : Nat → Prop) (fm : Nat) (bp bc cf : Int → Nat) : Prop where
  dx : Dx W w hb p g bd n m H (fun k => G k ∨ Fo fm bp bc rs k)
  mp : IMap w fm (idsR rs) (rowV bp bc cf)
  row : ∀ x ∈ rs, IRow w W.heap.size (plV bp cf (x.id : Int)) x.ks
  pcs : ∀ x ∈ rs, PRow w W.heap.size (plV bc cf (x.id : Int)) (pcsN x.id x.text)
  off : ∀ k, Fo fm bp bc rs k → ¬ G k

set_option maxHeartbeats 800000 in
theorem new_nil (w : World) : Calls Tryz.prog 18 #[.pointer none] w fun e w' => e = .returned (.tuple #[.pointer none, .int .i64 1]) ∧ w' = w := by
  go_enter Tryz.func18, Tryz.ntmps18
  go_wp2_with fail
  go_ret2
  exact ⟨rfl, rfl⟩

section
variable {W w w' : World} {rb hb p g bd n m mb : Nat} {H : Hp} {rs : List Ro} {G : Nat → Prop}

set_option maxHeartbeats 3200000 in
set_option maxRecDepth 100000 in
theorem new_of (cF : Calls Tryz.prog 41 #[.pointer (some ⟨hb, 0, none⟩)] w fun e w' => ∃ fm bp bc cf, e = .returned (.tuple #[.map (some fm), .int .i64 0]) ∧ Found W w' hb p g bd n m H rs G fm bp bc cf ∧ Keep G w w') (hp : (ent n H).Perm (owned rs)) (hok : ∀ x ∈ rs, Rok x) (hrise : Rise rs) (hlen : rs.length ≤ 4000) :
    Calls Tryz.prog 18 #[.pointer (some ⟨hb, 0, none⟩)] w fun e w' => ∃ rb, e = .returned (.tuple #[.pointer (some ⟨rb, 0, none⟩), .int .i64 0]) ∧ ¬ G rb ∧ Rz' W w w' rb hb p g bd n m rs G := by
  have hmm := @run_makeMap Tryz.prog
  have HPM := (show Hid _ from And.intro hp (And.intro hok hrise))
  clear hp hok hrise
  go_enter Tryz.func18, Tryz.ntmps18
  go_wp2_with fail
  refine cF.mono ?_
  rintro e w1 ⟨fm, bp, bc, cf, rfl, F1, k1⟩
  have HF := (show Hid _ from And.intro F1 k1)
  have hlI : (idsR rs).length ≤ 4000 := by unfold idsR; simp; omega
  obtain ⟨D, hown1, hhas1, hat1⟩ := F1.mp.ex
  have HF2 := HF.out.1
  have b1 := below_alloc1 w1 (.map #[] 0)
  have b2 := below_alloc1 (w1.alloc (.map #[] 0)) (.cells #[.pointer (some ⟨hb, 0, none⟩), .map (some w1.heap.size), .slice none 0 0] 73)
  have b12 := below2 b1 b2
  have mp2 : IMap ((w1.alloc (.map #[] 0)).alloc (.cells #[.pointer (some ⟨hb, 0, none⟩), .map (some w1.heap.size), .slice none 0 0] 73)) w1.heap.size [] (plV bp cf) := (IMap.made w1 _).below b2
  have tp2 : ((w1.alloc (.map #[] 0)).alloc (.cells #[.pointer (some ⟨hb, 0, none⟩), .map (some w1.heap.size), .slice none 0 0] 73)).heap[w1.heap.size + 1]? = some (robj hb w1.heap.size (.slice none 0 0)) := by
    have h := heap_alloc_new (w1.alloc (.map #[] 0)) (.cells #[.pointer (some ⟨hb, 0, none⟩), .map (some w1.heap.size), .slice none 0 0] 73)
    rw [show (w1.alloc (.map #[] 0)).heap.size = w1.heap.size + 1 by simp] at h
    exact h
  have sz2 : ((w1.alloc (.map #[] 0)).alloc (.cells #[.pointer (some ⟨hb, 0, none⟩), .map (some w1.heap.size), .slice none 0 0] 73)).heap.size = w1.heap.size + 1 + 1 := by simp
  have dx2 : Dx W ((w1.alloc (.map #[] 0)).alloc (.cells #[.pointer (some ⟨hb, 0, none⟩), .map (some w1.heap.size), .slice none 0 0] 73)) hb p g bd n m H (fun k => (G k ∨ Fo fm bp bc rs k) ∨ k = w1.heap.size ∨ k = w1.heap.size + 1) :=
    HF2.dx.own (F := fun _ => False) (Fr.of_below b12) (fun _ q => q.elim) (fun k q => by
      rw [sz2]
      rcases q with q | q | q
      · have := HF2.dx.lt q; exact ⟨Or.inl q, by omega⟩
      · exact ⟨Or.inr (by omega), by omega⟩
      · exact ⟨Or.inr (by omega), by omega⟩)
  have kp2 := HF2.dx.keep b12
  have hown2 := own_at hown1 (b12.block _ hown1.lt)
  have HD := (show Hid _ from And.intro hhas1 hat1)
  have HN2 := (show Hid _ from And.intro mp2 (And.intro tp2 (And.intro dx2 (And.intro kp2 sz2))))
  clear cF F1 k1 hown1 hhas1 hat1 HF2 b1 b2 b12 mp2 tp2 dx2 kp2 sz2
  go_wp2_with (first
    | (at_range; refine wpList_range_own _ rfl _ 85 rfl 2 89 lawI Tryz.underlying85 tokR fm (idsR rs).length D rfl hown2 ?_; intro w0 hrg0 hg0 hs0))
  go_frame
  generalize (w1.alloc (.map #[] 0)).alloc (.cells #[.pointer (some ⟨hb, 0, none⟩), .map (some w1.heap.size), .slice none 0 0] 73) = w2 at *
  obtain ⟨mp2, tp2, dx2, kp2, sz2⟩ := HN2.out
  have f20 := Fr.of_grown hg0
  have dx0 : Dx W w0 hb p g bd n m H (fun k => (G k ∨ Fo fm bp bc rs k) ∨ k = w1.heap.size ∨ k = w1.heap.size + 1 ∨ k = w2.heap.size) := dx2.own f20 (fun k q => by cases q) (fun k q => by
    rcases q with q | q | q | q
    · exact ⟨Or.inl (Or.inl q), Nat.lt_of_lt_of_le (dx2.lt (Or.inl q)) f20.size⟩
    · exact ⟨Or.inl (Or.inr (Or.inl q)), by omega⟩
    · exact ⟨Or.inl (Or.inr (Or.inr q)), by omega⟩
    · exact ⟨Or.inr (by omega), by omega⟩)
  have k20 : Keep (fun k => (G k ∨ Fo fm bp bc rs k) ∨ k = w1.heap.size ∨ k = w1.heap.size + 1) w2 w0 := fun k q => f20.block k (dx2.lt q) (fun z => by cases z)
  have mp0 := mp2.kept (k20 _ (Or.inr (Or.inl rfl)))
  have tp0 := (k20 _ (Or.inr (Or.inr rfl))).trans tp2
  have kp0 : Keep (fun k => G k ∨ Fo fm bp bc rs k) w1 w0 := kp2.trans (k20.less (fun k q => Or.inl q))
  have HIT : Hid (w1.heap.size + 1 + 1 = w2.heap.size ∧ fm < w1.heap.size) := ⟨sz2.symm, HF.out.1.dx.lt (Or.inr (Or.inl rfl))⟩
  have HIn := (show Hid _ from HD.out.1)
  have hst : ∀ i, i ∈ ([] : List Int) ↔ (i ∈ idsR rs ∧ Maps.has D (.int .i64 i) = false) := fun i => by
    rw [HIn.out i]
    simp
  clear dx2 mp2 tp2 kp2 sz2 f20 k20 hg0 hs0 hown2 HN2
  generalize w2.heap.size = it at *
  go_loopw [27] (fun _ wr => ∃ (left : Lit → Bool) (cnt : Nat) (dn : List Int), wr.ranges Tryz.prog 2 tokR fm it (idsR rs).length D left cnt ∧ IMap wr w1.heap.size dn (plV bp cf) ∧ Hid (∀ i, i ∈ dn ↔ (i ∈ idsR rs ∧ left (.int .i64 i) = false)) ∧ Hid (Dx W wr hb p g bd n m H (fun k => (G k ∨ Fo fm bp bc rs k) ∨ k = w1.heap.size ∨ k = w1.heap.size + 1 ∨ k = it)) ∧ wr.heap[w1.heap.size + 1]? = some (robj hb w1.heap.size (.slice none 0 0)) ∧ Hid (Keep (fun k => G k ∨ Fo fm bp bc rs k) w1 wr)) (fun _ wr => wr.rangeLeft fm it)
  case atStart => exact ⟨_, _, [], hrg0, mp0, hst, dx0, tp0, kp0⟩
  case round =>
    clear hrg0 mp0 dx0 tp0 kp0 hst
    obtain ⟨left, cnt, dn, hrg, mpr, hdn, dxr, tpr, kpr⟩ := hrel
    go_wp2_with (first
      | (at_next; refine wpList_next_ranges _ rfl _ rfl 2 lawI tokR (Value.int .i64) id (fun key kl hk => by obtain ⟨x, hx, _⟩ := keyOf_int_inv Tryz.underlying2 hk; exact ⟨x, hx⟩) (fun v _ _ => ⟨v, rfl⟩) fm it _ _ _ _ rfl hrg ?_ ?_))
    · intro hc0 hl0
      have hrbG : ¬ G (w1.heap.size + 1) := fun q => by have := HF.out.1.dx.lt (Or.inl q); omega
      have HX : Hid (¬ G (w1.heap.size + 1) ∧ Rz' W w wr (w1.heap.size + 1) hb p g bd n m rs G) := by
        refine ⟨hrbG, ⟨⟨w1.heap.size, none, 0, plV bp cf, H, ⟨Dx.less dxr.out (fun k q => ?_), tpr, mpr.congr (fun i => ?_) (ids_nodup HPM.out.2.2) (fun _ _ => rfl), fun y hy => (HF.out.1.row y hy).kept (fun j e => kpr.out j (Or.inr (Or.inr ⟨y, hy, Or.inl ?_⟩))), HPM.out.2.1, HPM.out.2.2, fun k q => ?_⟩, HPM.out.1⟩, Keep.trans HF.out.2 (Keep.less kpr.out (fun k q => Or.inl q))⟩⟩
        · rcases q with q | q | q | ⟨y, hy, e⟩
          · exact Or.inl (Or.inl q)
          · exact Or.inr (Or.inr (Or.inl q))
          · exact Or.inr (Or.inl q)
          · refine Or.inl (Or.inr (Or.inr ⟨y, hy, Or.inl ?_⟩))
            simpa [plV, Value.ownBlock] using e.symm
        · rw [hdn.out i, hl0]
          simp
        · simpa [plV, Value.ownBlock] using e.symm
        · rcases q with q | q | ⟨y, hy, e⟩
          · rw [q]; exact hrbG
          · rw [q]
            exact fun z => by have := HF.out.1.dx.lt (Or.inl z); omega
          · refine HF.out.1.off k (Or.inr ⟨y, hy, Or.inl ?_⟩)
            simpa [plV, Value.ownBlock] using e.symm
      clear hrg mpr dxr tpr kpr hdn
      go_wp2_with fail
      go_ret2
      exact ⟨_, rfl, HX.out⟩
    · intro x c kl yd yp w3 cnt3 hkey hlk hv hat hrg3 hlt hg3 hs3 hen
      obtain ⟨x', ex, rfl, _⟩ := keyOf_int_inv Tryz.underlying2 hkey
      have exx : x = x' := by injection ex
      subst exx
      have hxin : x ∈ idsR rs := by
        have := has_true_of_atKey hat
        rw [HIn.out x, decide_eq_true_eq] at this
        exact this
      have hcv : c = rowV bp bc cf x := by
        have e1 : ((DataW.held c, []) : DataW Value × List MemPlace) = (yd, yp) := Option.some.inj hv
        have e2 := hat .nil
        have e3 : DataW.held c = yd := congrArg Prod.fst e1
        rw [HD.out.2 x hxin, ← e3] at e2
        exact (DataW.held.inj e2).symm
      subst hcv
      obtain ⟨y, hy, rfl⟩ := ids_mem.1 hxin
      have hok := HPM.out.2.1 y hy
      have f3 := Fr.of_grown hg3
      have nit : ∀ k, k < w1.heap.size + 1 + 1 → ¬ (some it = some k) := fun k q z => by have := HIT.out.1; injection z; omega
      have dx3 : Dx W w3 hb p g bd n m H (fun k => (G k ∨ Fo fm bp bc rs k) ∨ k = w1.heap.size ∨ k = w1.heap.size + 1 ∨ k = it) := Dx.own dxr.out f3 (fun k q => Or.inl (Or.inr (Or.inr (Or.inr (by injection q with q; exact q.symm))))) (fun k q => ⟨Or.inl q, Nat.lt_of_lt_of_le (Dx.lt dxr.out q) f3.size⟩)
      have k3 : Keep (fun k => (G k ∨ Fo fm bp bc rs k) ∨ k = w1.heap.size ∨ k = w1.heap.size + 1) wr w3 := fun k q => f3.block k (Dx.lt dxr.out (q.elim Or.inl (fun z => Or.inr (z.imp id Or.inl)))) (nit k (by
        rcases q with q | q | q
        · have := HF.out.1.dx.lt q; omega
        · omega
        · omega))
      have mp3 := mpr.kept (k3 _ (Or.inr (Or.inl rfl)))
      have tp3 := (k3 _ (Or.inr (Or.inr rfl))).trans tpr
      have kp3 : Keep (fun k => G k ∨ Fo fm bp bc rs k) w1 w3 := Keep.trans kpr.out (k3.less (fun k q => Or.inl q))
      have hdn3 : ∀ i, i ∈ (y.id : Int) :: dn ↔ (i ∈ idsR rs ∧ (left (.int .i64 i) && !(Lit.int .i64 i).sameKey (.int .i64 (y.id : Int))) = false) := fun i => by
        rw [List.mem_cons, hdn.out i]
        by_cases e : i = (y.id : Int)
        · subst e
          simp [hxin, Lit.sameKey]
        · rw [sameKey_ne (lit_ne e)]
          simp [e]
      have hnd : (y.id : Int) ∉ dn := fun q => by
        have := ((hdn.out _).1 q).2
        rw [hlk] at this
        cases this
      have b4 := below_alloc1 w3 (.cells #[.slice (some ⟨bp (y.id : Int), 0, none⟩) (cf (y.id : Int)) (cf (y.id : Int)), .slice (some ⟨bc (y.id : Int), 0, none⟩) (cf (y.id : Int)) (cf (y.id : Int))] 89)
      have hpc : PRow (w3.alloc (.cells #[.slice (some ⟨bp (y.id : Int), 0, none⟩) (cf (y.id : Int)) (cf (y.id : Int)), .slice (some ⟨bc (y.id : Int), 0, none⟩) (cf (y.id : Int)) (cf (y.id : Int))] 89)) W.heap.size (plV bc cf (y.id : Int)) (pcsN y.id y.text) := ((HF.out.1.pcs y hy).kept (fun j e => kp3 j (Or.inr (Or.inr ⟨y, hy, Or.inr (by simpa [plV, Value.ownBlock] using e.symm)⟩)))).below' b4
      have cJ := rjoin_any y.id hok.id.2 y.text (by have := hok.text; omega) _ _ _ hpc
      have hX4 := heap_alloc_new w3 (.cells #[.slice (some ⟨bp (y.id : Int), 0, none⟩) (cf (y.id : Int)) (cf (y.id : Int)), .slice (some ⟨bc (y.id : Int), 0, none⟩) (cf (y.id : Int)) (cf (y.id : Int))] 89)
      have dx4 := dx3.below b4
      have kp4 := kp3.trans ((dx3.keep b4).less (fun k q => Or.inl q))
      have mp4 := mp3.below b4
      have tp4 := (b4.block _ (lt_of_some tp3)).trans tp3
      have hrg4 := hrg3.alloc (.cells #[.slice (some ⟨bp (y.id : Int), 0, none⟩) (cf (y.id : Int)) (cf (y.id : Int)), .slice (some ⟨bc (y.id : Int), 0, none⟩) (cf (y.id : Int)) (cf (y.id : Int))] 89)
      have HH := (show Hid _ from And.intro hdn3 hnd)
      have HG4 := (show Hid _ from And.intro dx4 kp4)
      have HT4 := (show Hid _ from tp4)
      have HR4 : Hid (World.ranges (w3.alloc (.cells #[.slice (some ⟨bp (y.id : Int), 0, none⟩) (cf (y.id : Int)) (cf (y.id : Int)), .slice (some ⟨bc (y.id : Int), 0, none⟩) (cf (y.id : Int)) (cf (y.id : Int))] 89)) Tryz.prog 2 tokR fm it (idsR rs).length D (fun z => left z && !z.sameKey (.int .i64 (y.id : Int))) cnt3) := hrg4
      have hlt3 : w3.heap.size < (w3.alloc (.cells #[.slice (some ⟨bp (y.id : Int), 0, none⟩) (cf (y.id : Int)) (cf (y.id : Int)), .slice (some ⟨bc (y.id : Int), 0, none⟩) (cf (y.id : Int)) (cf (y.id : Int))] 89)).heap.size := by simp
      have hi : i64B (y.id : Int) := ⟨by have := hok.id; omega, by have := hok.id; omega⟩
      have hdl : dn.length < 1000000 := by
        have := nodup_leI dn (idsR rs) mpr.nd (fun z hz => ((hdn.out z).1 hz).1)
        omega
      unfold rowV at *
      clear hs3 hg3 hrg3 dx3 k3 mp3 tp3 kp3 hdn3 hnd b4 hkey hv hat f3 nit dx4 kp4 hrg4 hpc hlI tp4
      go_wp2_with fail
      refine cJ.mono ?_
      rintro e w5 ⟨rfl, b5⟩
      have mp5 := mp4.below b5
      have tp5 := (b5.block _ (lt_of_some HT4.out)).trans HT4.out
      obtain ⟨_, c1, _, _⟩ := rcells tp5
      have hX5 := (b5.block _ hlt3).trans hX4
      have x0 : w5.cell? ⟨w3.heap.size, 0, none⟩ = some (.slice (some ⟨bp (y.id : Int), 0, none⟩) (cf (y.id : Int)) (cf (y.id : Int))) := cell_in hX5 0 _ rfl
      obtain ⟨w6, hrun, _, s2, f6⟩ := (mp5.below (below_drew w5)).store (t := 71) Tryz.underlying71 hdl hi (.slice (some ⟨bp (y.id : Int), 0, none⟩) (cf (y.id : Int)) (cf (y.id : Int)))
      have HS6 := (show Hid _ from And.intro (s2 HH.out.2) f6)
      have HB5 := (show Hid _ from b5)
      have HT5 := (show Hid _ from tp5)
      clear cJ mp4 mp5 tp5 hX4 hX5 b5 s2 f6 hlt3
      go_wp2_with fail
      go_region
      go_wp2_with fail
      obtain ⟨mp6, f6⟩ := HS6.out
      have g5 := grown_below HB5.out
      have hne1 : fm ≠ w1.heap.size := by have := HIT.out.2; omega
      have hne2 : it ≠ w1.heap.size := by have := HIT.out.1; omega
      have f56 : Fr (fun k => k = w1.heap.size) w5 w6 := ⟨f6.os, f6.tape, f6.output, f6.size, f6.block⟩
      have hrg6 := (World.ranges.kept (row := none) HR4.out g5 (by simp) (by simp)).kept (grown_fr f56) (by simpa using hne1) (by simpa using hne2)
      have dx5 := HG4.out.1.below HB5.out
      have dx6 : Dx W w6 hb p g bd n m H (fun k => (G k ∨ Fo fm bp bc rs k) ∨ k = w1.heap.size ∨ k = w1.heap.size + 1 ∨ k = it) := dx5.own f56 (fun k q => Or.inl (Or.inr (Or.inl q))) (fun k q => ⟨Or.inl q, Nat.lt_of_lt_of_le (dx5.lt q) f56.size⟩)
      have k56 : Keep (fun k => (G k ∨ Fo fm bp bc rs k) ∨ k = w1.heap.size + 1) w5 w6 := fun k q => f56.block k (dx5.lt (q.elim Or.inl (fun z => Or.inr (Or.inr (Or.inl z))))) (fun z => by
        rcases q with q | q
        · have := HF.out.1.dx.lt q; omega
        · omega)
      have kp6 : Keep (fun k => G k ∨ Fo fm bp bc rs k) w1 w6 := (HG4.out.2.trans ((HG4.out.1.keep HB5.out).less (fun k q => Or.inl q))).trans (k56.less (fun k q => Or.inl q))
      have tp6 := (k56 _ (Or.inr rfl)).trans HT5.out
      have mp6' : IMap w6 w1.heap.size ((y.id : Int) :: dn) (plV bp cf) := mp6.congr (fun i => Iff.rfl) mp6.nd (fun i _ => by
        unfold updI
        split
        · rename_i e; rw [e]; rfl
        · rfl)
      have e1 := hrg6.left_eq
      have e2 := hrg.left_eq
      go_roundw
      case rel => exact ⟨_, cnt3, (y.id : Int) :: dn, hrg6, mp6', HH.out.1, dx6, tp6, kp6⟩
      case measure => rw [e1, e2]; exact hlt
end

end Go.Proofs.YtkjioabhdglkpaaGreat
end

section
namespace Go.Proofs.YtkjioabhdglkpaaGreat
open Go.RowKit Go.Maps

section
variable {W w w' : World} {rb hb p g bd n m mb : Nat} {H : Hp} {rs : List Ro} {G : Nat → Prop}

set_option maxHeartbeats 1600000 in
set_option maxRecDepth 100000 in
theorem find_none9 (d : Dx W w hb p g bd n m H G) (hbd : bd ≤ 5000000) (hm : 1 ≤ m) (hn : n ≤ 500) (he : ent n H = []) :
    Calls Tryz.prog 41 #[.pointer (some ⟨hb, 0, none⟩)] w fun e w' => ∃ fm bp bc cf, e = .returned (.tuple #[.map (some fm), .int .i64 0]) ∧ Found W w' hb p g (bd + 3 * n + 6) n m H [] G fm bp bc cf ∧ Keep G w w' := by
  have hmm := @run_makeMap Tryz.prog
  have cP := d.places (by omega) hm hn
  have hpl : placesN n H = [] := by rw [← ent_fst, he]; rfl
  rw [hpl] at cP
  clear d
  go_enter Tryz.func41, Tryz.ntmps41
  go_wp2_with fail
  refine cP.mono ?_
  rintro e w1 ⟨v, rfl, row, off, d1, k1⟩
  obtain ⟨va, vc, rfl, _, _⟩ := row.len
  have hd1 : Dx W w1 hb p g (bd + 3 * n + 6) n m H G := d1.less (fun k q => Or.inl q)
  have b2 := below_alloc1 w1 (.map #[] 0)
  have mp2 : IMap (w1.alloc (.map #[] 0)) w1.heap.size [] (rowV (fun _ => 0) (fun _ => 0) (fun _ => 0)) := IMap.made w1 _
  have HX : Hid (Found W (w1.alloc (.map #[] 0)) hb p g (bd + 3 * n + 6) n m H [] G w1.heap.size (fun _ => 0) (fun _ => 0) (fun _ => 0) ∧ Keep G w (w1.alloc (.map #[] 0))) := by
    refine ⟨⟨(hd1.alloc (.map #[] 0)).less (fun k q => ?_), mp2, fun x hx => (by cases hx), fun x hx => (by cases hx), fun k q z => ?_⟩, k1.trans (hd1.keep b2)⟩
    · rcases q with q | q | ⟨x, hx, _⟩
      · exact Or.inl q
      · exact Or.inr q
      · cases hx
    · rcases q with q | ⟨x, hx, _⟩
      · have := hd1.lt z; omega
      · cases hx
  clear cP row off d1 k1 hd1 b2 mp2
  go_wp2_with fail
  refine wp_loop_rounds 1 ?_
  rw [rounds_succ]
  go_wp2_with fail
  go_ret2
  exact ⟨_, _, _, _, rfl, HX.out⟩
theorem new_empty (d : Dx W w hb p g bd n m (fun _ => []) G) (hbd : bd ≤ 5000000) (hm : 1 ≤ m) (hn : n ≤ 500) :
    Calls Tryz.prog 18 #[.pointer (some ⟨hb, 0, none⟩)] w fun e w' => ∃ rb, e = .returned (.tuple #[.pointer (some ⟨rb, 0, none⟩), .int .i64 0]) ∧ ¬ G rb ∧ Rz' W w w' rb hb p g (bd + 3 * n + 6) n m [] G :=
  new_of (find_none9 d hbd hm hn (ent_new n)) (by rw [ent_new]; exact List.Perm.refl _) (fun x hx => by cases hx) List.Pairwise.nil (by simp)
end

end Go.Proofs.YtkjioabhdglkpaaGreat
end

section
namespace Go.Proofs.YtkjioabhdglkpaaGreat
open Go.RowKit

theorem rmap_zeros (k : Nat) : (List.replicate k (0 : UInt8)).map bv = List.replicate k (.int .u8 0) := by
  rw [List.map_replicate]
  rfl

set_option maxHeartbeats 800000 in
set_option maxRecDepth 100000 in
theorem rzeros_any (k : Nat) (w : World) (hk : k ≤ 100000) : Calls Tryz.prog 30 #[.int .i64 (k : Int)] w fun e w' => e = .returned (.string (ba (List.replicate k 0))) ∧ Below w.heap.size w w' := by
  obtain ⟨i0, hi, hz0, hz1, hz2⟩ := info_parts Tryz.info5
  obtain ⟨M, hM⟩ : ∃ M, M = madeCells (Value.int .u8 0).cells ((k : Int).toNat * i0.size) := ⟨_, rfl⟩
  have hmk : ∀ W : World, (Instr.makeSlice 129 (.int .i64 (k : Int)) (.int .i64 (k : Int))).run Tryz.prog W = .ok (.slice (some ⟨W.heap.size, 0, none⟩) k k) (W.alloc (.cells M 5)) := by
    intro W
    have h := run_make (P := Tryz.prog) W 129 5 i0 (.int .u8 0) Tryz.underlying129 hi hz0 .i64 .i64 (k : Int) (k : Int) (by omega) (by omega) (by rw [hz2]; omega) (by omega)
    rw [← hM] at h
    simpa using h
  have hMl : M.toList = (List.replicate k (0 : UInt8)).map bv := by
    rw [hM, hz1, rmap_zeros]
    show (madeCells #[Value.int .u8 0] ((k : Int).toNat * 1)).toList = _
    rw [toList_madeCells_one]
    simp
  have hMs : M.size = k * 1 := by rw [hM, size_madeCells, hz1]; simp
  have hown0 : (w.alloc (.cells M 5)).ownsRow w.heap.size 5 1 (.slice (some ⟨w.heap.size, 0, none⟩) k k) k ((List.replicate k (0 : UInt8)).map bv) := by
    rw [← hMl]
    exact World.ownsRow_lit w M k (Nat.le_refl _) (by unfold maxLen; omega) hMs
  have hcv := own_text hown0
  clear hM hMl hMs hown0
  go_enter Tryz.func30, Tryz.ntmps30
  go_wp2_with fail
  go_ret
  exact ⟨rfl, below_alloc1 _ _⟩

theorem Rz'.trans {W w w1 w2 : World} {rb hb p g bd n m : Nat} {rs : List Ro} {G : Nat → Prop} (k : Keep G w w1) (h : Rz' W w1 w2 rb hb p g bd n m rs G) : Rz' W w w2 rb hb p g bd n m rs G := ⟨h.rz, k.trans h.keep⟩
theorem Rz.bel {W w : World} {rb hb p g bd n m : Nat} {rs : List Ro} {G : Nat → Prop} (h : Rz W w rb hb p g bd n m rs G) : Below W.heap.size W w := by
  obtain ⟨mb, wa, wc, vf, H, r, _⟩ := h.ex
  exact r.dx.bel
theorem Rz.below {W w w' : World} {rb hb p g bd n m : Nat} {rs : List Ro} {G : Nat → Prop} (h : Rz W w rb hb p g bd n m rs G) (b : Below w.heap.size w w') : Rz W w' rb hb p g bd n m rs G := by
  obtain ⟨mb, wa, wc, vf, H, r, q⟩ := h.ex
  exact ⟨mb, wa, wc, vf, H, r.below b, q⟩

set_option maxHeartbeats 1600000 in
set_option maxRecDepth 100000 in
theorem made9_any (n m : Nat) (hn : 1 ≤ n ∧ n ≤ 500) (hm : 1 ≤ m ∧ m ≤ 64) (w : World) : Calls Tryz.prog 9 #[.int .i64 (n : Int), .int .i64 (m : Int)] w fun e w' => ∃ g p hb rb, e = .returned (.tuple #[.pointer (some ⟨p, 0, none⟩), .pointer (some ⟨hb, 0, none⟩), .pointer (some ⟨rb, 0, none⟩), .bool true]) ∧ Rz w w' rb hb p g (3 * n + 6) n m [] (fun _ => False) := by
  have cM := made_any n m ⟨hn.1, by omega⟩ hm w
  go_enter Tryz.func9, Tryz.ntmps9
  go_wp2_with fail
  refine cM.mono ?_
  rintro e w1 ⟨g, p, hb, rfl, t1⟩
  have d1 : Dx w w1 hb p g 0 n m (fun _ => []) (fun _ => False) := ⟨⟨_, [], t1, vok_new n hn.1 (by omega), fun _ q => q.elim⟩, fun _ q => q.elim⟩
  have cN := new_empty d1 (by omega) hm.1 hn.2
  clear cM t1 d1
  go_wp2_with fail
  refine cN.mono ?_
  rintro e w2 ⟨rb, rfl, _, r2⟩
  have HR : Hid (Rz w w2 rb hb p g (3 * n + 6) n m [] (fun _ => False)) := by have := r2.rz; rwa [Nat.zero_add] at this
  clear cN r2
  go_wp2_with fail
  refine bodyPost_ret (results_tmp4 rfl _ _ _) rfl ?_
  exact ⟨g, p, hb, rb, rfl, HR.out⟩

section
set_option maxHeartbeats 800000 in
theorem rput_nil (i : Int) (text : ByteArray) (w : World) : Calls Tryz.prog 12 #[.pointer none, .int .i64 i, .string text] w fun e w' => e = .returned (.int .i64 1) ∧ w' = w := by
  go_enter Tryz.func12, Tryz.ntmps12
  go_wp2_with fail
  go_ret
  exact ⟨rfl, rfl⟩
set_option maxHeartbeats 800000 in
theorem rdel_nil (i : Int) (w : World) : Calls Tryz.prog 15 #[.pointer none, .int .i64 i] w fun e w' => e = .returned (.int .i64 1) ∧ w' = w := by
  go_enter Tryz.func15, Tryz.ntmps15
  go_wp2_with fail
  go_ret
  exact ⟨rfl, rfl⟩
set_option maxHeartbeats 800000 in
theorem rget_nil (i : Int) (w : World) : Calls Tryz.prog 28 #[.pointer none, .int .i64 i] w fun e w' => e = .returned (.tuple #[.string ⟨#[]⟩, .int .i64 1]) ∧ w' = w := by
  go_enter Tryz.func28, Tryz.ntmps28
  go_wp2_with fail
  go_ret2
  exact ⟨rfl, rfl⟩
set_option maxHeartbeats 800000 in
theorem rpieces_nil (i : Int) (w : World) : Calls Tryz.prog 29 #[.pointer none, .int .i64 i] w fun e w' => e = .returned (.int .i64 0) ∧ w' = w := by
  go_enter Tryz.func29, Tryz.ntmps29
  go_wp2_with fail
  go_ret
  exact ⟨rfl, rfl⟩
end

theorem Pput.room {W w w' : World} {rb hb p g bd n m : Nat} {rs : List Ro} {G : Nat → Prop} {id : Nat} {text : ByteArray} {X : Int} (h : Pput W w w' rb hb p g bd n m rs G id text X) (hr : ¬ n ≤ pieN rs + cntN text.size) : X = 0 ∧ ∃ ks, Rok ⟨id, text, ks⟩ ∧ Rz' W w w' rb hb p g bd n m (putRo rs ⟨id, text, ks⟩) G := by
  rcases h.out with ⟨a, b⟩ | ⟨_, b, _⟩
  · exact ⟨a, b⟩
  · exact absurd b hr

/-- The heap's Places, beside rows: as many as all pieces. -/
theorem Rz.places {W w : World} {rb hb p g bd n m : Nat} {rs : List Ro} {G : Nat → Prop} (h : Rz W w rb hb p g bd n m rs G) (hbd : bd ≤ 6000000) (hm : 1 ≤ m) (hn : n ≤ 500) :
    Calls Tryz.prog 31 #[.pointer (some ⟨hb, 0, none⟩)] w fun e w' => ∃ a c, e = .returned (.tuple #[.slice a (pieN rs) c, .int .i64 0]) ∧ Rz' W w w' rb hb p g (bd + 3 * n + 6) n m rs G := by
  obtain ⟨mb, wa, wc, vf, H, r, q⟩ := h.ex
  refine (r.dx.places hbd hm hn).mono ?_
  rintro e w' ⟨v, rfl, row, _, d, k⟩
  obtain ⟨a, c, rfl, _, _⟩ := row.len
  have hl : (placesN n H).length = pieN rs := by
    rw [← ent_fst, List.length_map, q.length_eq, owned_len r.ok]
  rw [hl]
  exact ⟨a, c, rfl, ⟨mb, wa, wc, vf, H, r.move (d.less (fun k z => Or.inl z)) k, q⟩, k.less (fun k z => Or.inl z)⟩

set_option maxHeartbeats 3200000 in
set_option maxRecDepth 100000 in
theorem wakes9_any (w : World) : Calls Tryz.prog 11 #[] w fun e w' => e = .returned (.bool true) ∧ Below w.heap.size w w' := by
  have cM := made9_any 20 3 (by decide) (by decide) w
  have cZ := rzeros_any 1000
  have hS : (ba (List.replicate 1000 0)).size = 1000 := by rw [ba_size, List.length_replicate]
  have HL : Hid (cntN 1000 = 3) := by show cntN 1000 = 3; decide
  generalize ba (List.replicate 1000 0) = Z at *
  have cZ2 : ∀ w : World, Calls Tryz.prog 30 #[.int .i64 1000] w fun e w' => e = .returned (.string Z) ∧ Below w.heap.size w w' := fun w => cZ w (by omega)
  clear cZ
  go_enter Tryz.func11, Tryz.ntmps11
  go_wp2_with fail
  refine cM.mono ?_
  rintro e w1 ⟨g, p, hb, rb, rfl, r1⟩
  have HR1 := (show Hid _ from r1)
  clear cM r1
  go_wp2_with fail
  refine (cZ2 _).mono ?_
  rintro e w2 ⟨rfl, b2⟩
  have r2 := HR1.out.below b2
  have cP := roput_new r2 (by omega) (by decide) (by decide) (by simp) (id := 7) (by decide) (text := Z) (by omega) (by simp [idsR])
  clear b2
  go_wp2_with fail
  refine cP.mono ?_
  rintro e w3 ⟨X, rfl, q⟩
  obtain ⟨rfl, ks, ok, r3, _⟩ := q.room (by rw [hS, HL.out]; decide)
  have hput : putRo [] ⟨7, Z, ks⟩ = [⟨7, Z, ks⟩] := rfl
  rw [hput] at r3
  obtain ⟨mb, wa, wc, vf, H, m3, hp3⟩ := r3.ex
  have cPi := pieces_yes m3 (x := ⟨7, Z, ks⟩) (by simp)
  simp only [hS, HL.out] at cPi
  have HM3 := (show Hid _ from And.intro m3 hp3)
  clear cP r3 r2 m3 hp3
  go_wp2_with fail
  refine cPi.mono ?_
  rintro e w4 ⟨rfl, hw4⟩
  rw [hw4]
  clear hw4 cPi
  have cG := roget_yes HM3.out.1 (by omega) (by decide) HM3.out.2 (x := ⟨7, Z, ks⟩) (by simp)
  simp only at cG
  go_wp2_with fail
  refine cG.mono ?_
  rintro e w5 ⟨rfl, g5⟩
  have r5 : Rz w w5 rb hb p g _ 20 3 [⟨7, Z, ks⟩] (fun _ => False) := ⟨mb, wa, wc, vf, H, g5.rm, HM3.out.2⟩
  have cQ := r5.places (by omega) (by decide) (by decide)
  have hpi : pieN [(⟨7, Z, ks⟩ : Ro)] = 3 := by
    unfold pieN
    simp only [List.map_cons, List.map_nil, List.sum_cons, List.sum_nil, hS, HL.out]
    rfl
  rw [hpi] at cQ
  clear cG g5 r5 hpi
  go_wp2_with fail
  refine cQ.mono ?_
  rintro e w6 ⟨pa, pc, rfl, r6⟩
  have B6 := (show Hid _ from r6.rz.bel)
  clear cQ r6
  go_wp2_with fail
  refine (cZ2 _).mono ?_
  rintro e w7 ⟨rfl, b7⟩
  go_wp2_with fail
  go_ret
  exact ⟨rfl, below2 B6.out b7⟩

end Go.Proofs.YtkjioabhdglkpaaGreat
end

section
namespace Go.Proofs.YtkjioabhdglkpaaGreat
open Go.RowKit Go.Maps Go.Sort Go.Shelf

theorem mp_keys {w : World} {b : Nat} {ks : List Int} {f : Int → Value} (h : IMap w b ks f) : ∃ D : DataW Value, w.ownsMap Tryz.prog 2 tokR b ks.length D ∧ ks.Perm (intKeys D) ∧ Maps.size D = ks.length := by
  obtain ⟨D, h1, h2, _⟩ := h.ex
  refine ⟨D, h1, ?_, size_keys h1 h2 h.nd⟩
  exact CollectedI.perm (left := fun _ => false) ⟨h.nd, fun x => by rw [h2]; simp⟩ h1 lawI Tryz.underlying2 (fun _ => rfl)

theorem Tryz.sortsA (m : Nat) : AnyZI.SortsIn Tryz.prog Tryz.sortedA_ren Fence.wide m :=
  ⟨fun blk off cap ss W hH hblk hsz => callsIn_wide.2 (AnyM.slices_Sort_int Tryz.sortA blk off cap ss W hH hblk hsz),
   fun p cap W => callsIn_wide.2 (AnyM.slices_Sort_int_none Tryz.sortA p cap W)⟩

theorem rise_sorted' (l s : List Int) (hl : l.Pairwise (· < ·)) (hp : s.Perm l) : s.mergeSort (fun x y => decide (x ≤ y)) = l := by
  have tr : ∀ a b c : Int, decide (a ≤ b) = true → decide (b ≤ c) = true → decide (a ≤ c) = true := fun a b c h1 h2 => by simp at *; omega
  have tt : ∀ a b : Int, (decide (a ≤ b) || decide (b ≤ a)) = true := fun a b => by simp; omega
  refine List.Perm.eq_of_pairwise (le := fun a b => decide (a ≤ b) = true) (fun a b _ _ h1 h2 => ?_) (List.pairwise_mergeSort tr tt s) (hl.imp (fun {a b} q => by simp; omega)) ((List.mergeSort_perm s _).trans hp)
  simp at h1 h2
  omega
theorem ids_rise {rs : List Ro} (h : Rise rs) : (idsR rs).Pairwise (· < ·) := by
  unfold idsR
  rw [List.pairwise_map]
  exact h.imp (fun {a b} q => by omega)

section
variable {W w w' : World} {rb hb p g bd n m mb : Nat} {wv : Value} {vf : Int → Value} {H : Hp} {rs : List Ro} {G : Nat → Prop}

set_option maxHeartbeats 1600000 in
set_option maxRecDepth 100000 in
theorem roids_any (h : Rm W w rb hb p g bd n m mb wv vf H rs G) (hlen : rs.length ≤ 100000) :
    Calls Tryz.prog 26 #[.pointer (some ⟨rb, 0, none⟩)] w fun e w' => ∃ v, e = .returned v ∧ w'.ownsRow w.heap.size 2 1 v (idsR rs).length ((idsR rs).map (Value.int .i64)) ∧ Below w.heap.size w w' := by
  obtain ⟨_, c1, _, _⟩ := rcells h.top
  obtain ⟨D0, hown, hpm, hsz⟩ := mp_keys h.mp
  have hbl := hown.lt
  have hl : (idsR rs).length = rs.length := by unfold idsR; simp
  have hmax : Maps.size D0 ≤ maxLen := by unfold maxLen; omega
  have hbytes : Maps.size D0 * 8 ≤ 140737488355328 := by omega
  have hrs := h.rise
  refine (callsIn_wide (n := 6)).1 ?_
  have hseq : SeqGives Fence.wide 2 Tryz.prog 80 #[.pointer (some ⟨w.heap.size, 0, none⟩)] encZ (fun ss => ss.Perm (intKeys D0)) (Maps.size D0) (w.alloc (.cells #[.map (some mb)] 71)) :=
    AnyZI.keys_gives (ρ := Tryz.keysA_ren) { Tryz.keysA with } Fence.wide _ trivial rfl (by omega) w.heap.size mb _ D0 _ (by simp) (by simp) (by
      obtain ⟨es, clock, hb, Ft, hs, hD⟩ := hown
      exact ⟨es, clock, (Below.heap_alloc _ _ mb hbl).trans hb, Ft, hs, hD⟩)
  have cK : ∀ mb W, CallsIn Fence.wide 5 Tryz.prog 54 #[.map mb] W fun e w' => e = .returned (.func (.func 80) #[] #[.pointer (some ⟨W.heap.size, 0, none⟩)]) ∧ w' = W.alloc (.cells #[.map mb] 71) := fun mb W => AnyZI.keys_in Tryz.keysA Fence.wide 5 trivial rfl mb W
  have cS := AnyZI.sorted_in Tryz.sortedA Fence.wide 5 trivial trivial trivial trivial rfl (by omega) (Tryz.sortsA _) (enters_of Tryz.func79 (by kernel_rfl) rfl) 80 #[.pointer (some ⟨w.heap.size, 0, none⟩)] trivial (enters_of Tryz.func80 (by kernel_rfl) rfl) _ _ hmax hbytes _ hseq
  change CallsIn _ _ Tryz.prog 53 _ _ _ at cS
  have hfK : Fence.wide.fn 54 := trivial
  have hfS : Fence.wide.fn 53 := trivial
  refine callsIn_of_wp Tryz.func26 rfl trivial ?_ rfl
  simp only [Tryz.ntmps26, List.size_toArray, List.length_cons, List.length_nil, Nat.reduceAdd, Nat.reduceSub, Array.replicate_succ, Array.replicate_zero, List.push_toArray, List.append_toArray, List.nil_append, List.cons_append]
  gi_wp2_with (first
    | (gi_at_call 54; refine (cK _ _).mono ?_; rintro e w' ⟨rfl, rfl⟩)
    | (gi_at_call 53; refine cS.mono ?_; rintro e w' ⟨v, ss, rfl, hS, hrow, hnil, hb⟩))
  go_ret
  have e1 := rise_sorted' (idsR rs) ss (ids_rise hrs) (hS.trans hpm.symm)
  have e2 : ss.length = (idsR rs).length := (hS.trans hpm.symm).length_eq
  rw [e1, e2] at hrow
  exact ⟨v, rfl, ownsRow_base_a hrow (by simp), ((Below.refl _ w).alloc (Nat.le_refl _) _).trans (hb.mono (by simp))⟩
end

theorem roids_nil (w : World) : Calls Tryz.prog 26 #[.pointer none] w fun e w' => e = .returned (.slice none 0 0) ∧ w' = w := by
  go_enter Tryz.func26, Tryz.ntmps26
  go_wp2_with fail
  go_ret
  exact ⟨rfl, rfl⟩

end Go.Proofs.YtkjioabhdglkpaaGreat
end

/- Delete, its outcome said ahead. -/
import Derived.Test.YtkjioabhdglkpaaGreatWAll
import Derived.Deep.RegionHeld3
import Derived.Deep.RegionLaw

section
namespace Go.Proofs.YtkjioabhdglkpaaGreat
open Go.RowKit

def pc0 : Pc := ⟨0, 0, 0, 0, ⟨#[]⟩⟩
/-- A row's places, as far as they are told in S. -/
def plL (S : List Int) (x : Ro) : List Int := x.ks.map (fun k => if k ∈ S then k else 0)
def pcL (S : List Int) (x : Ro) : List Pc := (List.range (cntN x.text.size)).map (fun a => if x.ks[a]?.getD 0 ∈ S then pcAt x.id x.text a else pc0)

theorem set_flat5 (l : List Pc) (a : Nat) (q : Pc) : (((((l.flatMap Pc.cells).set (a * 5) (.int .i64 (q.id : Int))).set (a * 5 + 1) (.int .i64 (q.no : Int))).set (a * 5 + 2) (.int .i64 (q.size : Int))).set (a * 5 + 3) (.int .u32 (q.sum : Int))).set (a * 5 + 4) (.string q.part) = (l.set a q).flatMap Pc.cells := by
  induction l generalizing a with
  | nil => simp
  | cons y l ih =>
    cases a with
    | zero => simp [Pc.cells]
    | succ a =>
      have h := ih a
      have e : (y :: l).flatMap Pc.cells = .int .i64 (y.id : Int) :: .int .i64 (y.no : Int) :: .int .i64 (y.size : Int) :: .int .u32 (y.sum : Int) :: .string y.part :: l.flatMap Pc.cells := rfl
      have e2 : ((y :: l).set (a + 1) q).flatMap Pc.cells = .int .i64 (y.id : Int) :: .int .i64 (y.no : Int) :: .int .i64 (y.size : Int) :: .int .u32 (y.sum : Int) :: .string y.part :: (l.set a q).flatMap Pc.cells := rfl
      rw [e, e2, ← h]
      rw [show (a + 1) * 5 = a * 5 + 1 + 1 + 1 + 1 + 1 by omega, show a * 5 + 1 + 1 + 1 + 1 + 1 + 1 = (a * 5 + 1) + 1 + 1 + 1 + 1 + 1 by omega, show a * 5 + 1 + 1 + 1 + 1 + 1 + 2 = (a * 5 + 2) + 1 + 1 + 1 + 1 + 1 by omega, show a * 5 + 1 + 1 + 1 + 1 + 1 + 3 = (a * 5 + 3) + 1 + 1 + 1 + 1 + 1 by omega, show a * 5 + 1 + 1 + 1 + 1 + 1 + 4 = (a * 5 + 4) + 1 + 1 + 1 + 1 + 1 by omega]
      simp only [List.set_cons_succ]

/-- A piece is laid into a row of pieces. -/
def putP (w : World) (b a : Nat) (q : Pc) : World := ((((w.setCell ⟨b, a * 5, none⟩ (.int .i64 (q.id : Int))).setCell ⟨b, a * 5 + 1, none⟩ (.int .i64 (q.no : Int))).setCell ⟨b, a * 5 + 2, none⟩ (.int .i64 (q.size : Int))).setCell ⟨b, a * 5 + 3, none⟩ (.int .u32 (q.sum : Int))).setCell ⟨b, a * 5 + 4, none⟩ (.string q.part)
theorem Fr.then9 {F : Nat → Prop} {a b c : World} (h : Fr F a b) (k : Fr F b c) : Fr F a c := ⟨k.os.trans h.os, k.tape.trans h.tape, k.output.trans h.output, Nat.le_trans h.size k.size, fun i hi hn => (k.block i (Nat.lt_of_lt_of_le hi h.size) hn).trans (h.block i hi hn)⟩
theorem fr_putP (w : World) (b a : Nat) (q : Pc) : Fr (fun k => k = b) w (putP w b a q) := ((((fr_set w b _ _).then9 (fr_set _ b _ _)).then9 (fr_set _ b _ _)).then9 (fr_set _ b _ _)).then9 (fr_set _ b _ _)

section
variable {w w' : World} {B b c : Nat}
theorem PRow.put {l : List Pc} (h : PRow w B (.slice (some ⟨b, 0, none⟩) c c) l) (a : Nat) (q : Pc) (hc : l.length = c) : PRow (putP w b a q) B (.slice (some ⟨b, 0, none⟩) c c) (l.set a q) := by
  subst hc
  have h5 := own_set (own_set (own_set (own_set (own_set h.own (a * 5) (.int .i64 (q.id : Int))) (a * 5 + 1) (.int .i64 (q.no : Int))) (a * 5 + 2) (.int .i64 (q.size : Int))) (a * 5 + 3) (.int .u32 (q.sum : Int))) (a * 5 + 4) (.string q.part)
  rw [set_flat5] at h5
  exact ⟨by rw [List.length_set]; exact h5⟩
theorem IRow.put {l : List Int} (h : IRow w B (.slice (some ⟨b, 0, none⟩) c c) l) (a : Nat) (k : Int) (hc : l.length = c) : IRow (w.setCell ⟨b, a, none⟩ (.int .i64 k)) B (.slice (some ⟨b, 0, none⟩) c c) (l.set a k) := by
  subst hc
  have h1 := own_set h.own a (.int .i64 k)
  refine ⟨?_⟩
  rw [List.length_set]
  have e : (intC l).set a (.int .i64 k) = intC (l.set a k) := by
    unfold intC
    rw [List.map_set]
  rw [e] at h1
  exact h1
end

section
variable {S : List Int} {x : Ro}
theorem plL_len : (plL S x).length = x.ks.length := by unfold plL; simp
theorem pcL_len : (pcL S x).length = cntN x.text.size := by unfold pcL; simp
theorem plL_get {a : Nat} {k : Int} (hk : x.ks[a]? = some k) : (plL S x)[a]? = some (if k ∈ S then k else 0) := by unfold plL; rw [List.getElem?_map, hk]; rfl
theorem plL_none (h : ∀ k ∈ x.ks, k ∉ S) : plL S x = List.replicate x.ks.length 0 := by
  unfold plL
  rw [List.map_congr_left (g := fun _ => (0 : Int)) (fun k hk => by rw [if_neg (h k hk)])]
  exact List.map_const' ..
theorem pcL_none (hl : x.ks.length = cntN x.text.size) (h : ∀ k ∈ x.ks, k ∉ S) : pcL S x = List.replicate (cntN x.text.size) pc0 := by
  unfold pcL
  rw [List.map_congr_left (g := fun _ => pc0) (fun a ha => by
    rw [List.mem_range, ← hl] at ha
    rw [if_neg (by rw [List.getElem?_eq_getElem ha]; exact h _ (List.getElem_mem ha))])]
  rw [List.map_const', List.length_range]
theorem plL_all (h : ∀ k ∈ x.ks, k ∈ S) : plL S x = x.ks := by
  unfold plL
  rw [List.map_congr_left (g := fun k => k) (fun k hk => by rw [if_pos (h k hk)])]
  exact List.map_id' ..
theorem pcL_all (hl : x.ks.length = cntN x.text.size) (h : ∀ k ∈ x.ks, k ∈ S) : pcL S x = pcsN x.id x.text := by
  unfold pcL pcsN
  exact List.map_congr_left (fun a ha => by
    rw [List.mem_range, ← hl] at ha
    rw [if_pos (by rw [List.getElem?_eq_getElem ha]; exact h _ (List.getElem_mem ha))])
theorem plL_other {k : Int} (h : k ∉ x.ks) : plL (S ++ [k]) x = plL S x := by
  unfold plL
  refine List.map_congr_left (fun z hz => ?_)
  have : z ≠ k := fun e => h (e ▸ hz)
  simp [this]
theorem pcL_other {k : Int} (hl : x.ks.length = cntN x.text.size) (h : k ∉ x.ks) : pcL (S ++ [k]) x = pcL S x := by
  unfold pcL
  refine List.map_congr_left (fun a ha => ?_)
  rw [List.mem_range, ← hl] at ha
  rw [List.getElem?_eq_getElem ha]
  have : x.ks[a] ≠ k := fun e => h (e ▸ List.getElem_mem ha)
  simp [this]
theorem plL_next {k : Int} {a : Nat} (hn : x.ks.Nodup) (hk : x.ks[a]? = some k) : plL (S ++ [k]) x = (plL S x).set a k := by
  obtain ⟨ha, he⟩ := List.getElem?_eq_some_iff.1 hk
  apply List.ext_getElem?
  intro i
  rw [List.getElem?_set]
  by_cases e : a = i
  · subst e
    rw [if_pos rfl, if_pos (by rw [plL_len]; exact ha), plL_get hk, if_pos (by simp)]
  · rw [if_neg e]
    by_cases hi : i < x.ks.length
    · have hi' : x.ks[i]? = some x.ks[i] := List.getElem?_eq_getElem hi
      have hne : x.ks[i] ≠ k := fun z => e ((List.getElem_inj hn).1 (he.trans z.symm))
      rw [plL_get hi', plL_get hi']
      simp [hne]
    · rw [List.getElem?_eq_none (by rw [plL_len]; omega), List.getElem?_eq_none (by rw [plL_len]; omega)]
theorem pcL_next {k : Int} {a : Nat} (hl : x.ks.length = cntN x.text.size) (hn : x.ks.Nodup) (hk : x.ks[a]? = some k) : pcL (S ++ [k]) x = (pcL S x).set a (pcAt x.id x.text a) := by
  obtain ⟨ha, he⟩ := List.getElem?_eq_some_iff.1 hk
  apply List.ext_getElem?
  intro i
  rw [List.getElem?_set]
  have hg : ∀ (T : List Int) (i : Nat), i < x.ks.length → (pcL T x)[i]? = some (if x.ks[i]?.getD 0 ∈ T then pcAt x.id x.text i else pc0) := fun T i hi => by
    unfold pcL
    rw [List.getElem?_map, List.getElem?_range (by omega)]
    rfl
  by_cases e : a = i
  · subst e
    rw [if_pos rfl, if_pos (by rw [pcL_len]; omega), hg _ a ha, hk, if_pos (by simp)]
  · rw [if_neg e]
    by_cases hi : i < x.ks.length
    · have hi' : x.ks[i]? = some x.ks[i] := List.getElem?_eq_getElem hi
      have hne : x.ks[i] ≠ k := fun z => e ((List.getElem_inj hn).1 (he.trans z.symm))
      rw [hg _ i hi, hg _ i hi, hi']
      simp [hne]
    · rw [List.getElem?_eq_none (by rw [pcL_len]; omega), List.getElem?_eq_none (by rw [pcL_len]; omega)]
end

/-- A row's number of pieces, by its id. -/
def cfR (rs : List Ro) (i : Int) : Nat := ((rs.find? (fun x => (x.id : Int) == i)).map (fun x => cntN x.text.size)).getD 0
theorem cfR_of {rs : List Ro} (h : Rise rs) {x : Ro} (hx : x ∈ rs) : cfR rs (x.id : Int) = cntN x.text.size := by
  unfold cfR
  have : rs.find? (fun y => (y.id : Int) == (x.id : Int)) = some x := by
    induction rs with
    | nil => cases hx
    | cons y rs ih =>
      unfold Rise at h
      rw [List.pairwise_cons] at h
      rw [List.find?_cons]
      rcases List.mem_cons.1 hx with e | hx'
      · subst e; simp
      · have := h.1 x hx'
        have hb : ((y.id : Int) == (x.id : Int)) = false := by simp; omega
        rw [hb]
        exact ih h.2 hx'
  rw [this]
  rfl
/-- The row with an id is one. -/
theorem rise_one {rs : List Ro} (h : Rise rs) {x y : Ro} (hx : x ∈ rs) (hy : y ∈ rs) (e : x.id = y.id) : x = y := by
  induction rs with
  | nil => cases hx
  | cons z rs ih =>
    unfold Rise at h
    rw [List.pairwise_cons] at h
    rcases List.mem_cons.1 hx with e1 | h1 <;> rcases List.mem_cons.1 hy with e2 | h2
    · rw [e1, e2]
    · have := h.1 y h2; rw [e1] at e; omega
    · have := h.1 x h1; rw [e2] at e; omega
    · exact ih h.2 h1 h2

theorem ent_big {n : Nat} {H : Hp} {k : Int} {r : ByteArray} (h : (k, r) ∈ ent n H) : k ≠ 0 := by
  unfold ent at h
  rw [List.mem_flatMap] at h
  obtain ⟨i, hi, h⟩ := h
  unfold pgsN at hi
  rw [List.mem_range'_1] at hi
  rw [List.mem_map] at h
  obtain ⟨y, hy, e⟩ := h
  have h0 : ∀ (l : List Sl) (q : Nat) (y : Int × ByteArray), y ∈ entL l q → 0 ≤ y.1 := by
    intro l
    induction l with
    | nil => intro q y h; cases h
    | cons s l ih =>
      intro q y h
      cases s with
      | none => exact ih _ y h
      | some r =>
        rcases List.mem_cons.1 h with e | h
        · rw [e]; simp only; omega
        · exact ih _ y h
  have := h0 _ _ _ hy
  have e1 : (128 * (i : Int) + y.1) = k := congrArg Prod.fst e
  omega
end Go.Proofs.YtkjioabhdglkpaaGreat
end

section
namespace Go.Proofs.YtkjioabhdglkpaaGreat
open Go.RowKit Go.Maps

def Fn (fm : Nat) (bp bc : Int → Nat) (rs : List Ro) (dn : List Int) (k : Nat) : Prop := k = fm ∨ ∃ x ∈ rs, (x.id : Int) ∈ dn ∧ (k = bp (x.id : Int) ∨ k = bc (x.id : Int))
def updN (f : Int → Nat) (i : Int) (b : Nat) : Int → Nat := fun j => if j = i then b else f j

/-- What find has found of rows, of the places in S. -/
structure Fd (W u : World) (hb p g bd n m : Nat) (H : Hp) (rs : List Ro) (G : Nat → Prop) (v : Value) (S : List Int) (fm : Nat) (bp bc : Int → Nat) (dn : List Int) : Prop where
  dx : Dx W u hb p g bd n m H (fun k => (G k ∨ v.ownBlock = some k) ∨ Fn fm bp bc rs dn k)
  vr : IRow u W.heap.size v (placesN n H)
  mp : IMap u fm dn (rowV bp bc (cfR rs))
  pl : ∀ y ∈ rs, (y.id : Int) ∈ dn → IRow u W.heap.size (plV bp (cfR rs) (y.id : Int)) (plL S y)
  pc : ∀ y ∈ rs, (y.id : Int) ∈ dn → PRow u W.heap.size (plV bc (cfR rs) (y.id : Int)) (pcL S y)
  off : ∀ k, Fn fm bp bc rs dn k → ¬ (G k ∨ v.ownBlock = some k)
  fmN : ∀ y ∈ rs, (y.id : Int) ∈ dn → bp (y.id : Int) ≠ fm ∧ bc (y.id : Int) ≠ fm
  ne : ∀ y ∈ rs, ∀ z ∈ rs, (y.id : Int) ∈ dn → (z.id : Int) ∈ dn → bp (y.id : Int) ≠ bc (z.id : Int) ∧ (bp (y.id : Int) = bp (z.id : Int) → y.id = z.id) ∧ (bc (y.id : Int) = bc (z.id : Int) → y.id = z.id)

section
variable {W u u' : World} {hb p g bd bd' n m : Nat} {H : Hp} {rs : List Ro} {G : Nat → Prop} {v : Value} {S : List Int} {fm : Nat} {bp bc : Int → Nat} {dn : List Int}
theorem fnFm : Fn fm bp bc rs dn fm := Or.inl rfl
theorem fnBp {x : Ro} (hx : x ∈ rs) (hd : (x.id : Int) ∈ dn) : Fn fm bp bc rs dn (bp (x.id : Int)) := Or.inr ⟨x, hx, hd, Or.inl rfl⟩
theorem fnBc {x : Ro} (hx : x ∈ rs) (hd : (x.id : Int) ∈ dn) : Fn fm bp bc rs dn (bc (x.id : Int)) := Or.inr ⟨x, hx, hd, Or.inr rfl⟩
theorem plV_own {cf : Int → Nat} {i : Int} {k : Nat} (h : (plV bp cf i).ownBlock = some k) : k = bp i := by simpa [plV, Value.ownBlock] using h.symm

theorem Fd.move (h : Fd W u hb p g bd n m H rs G v S fm bp bc dn) (d : Dx W u' hb p g bd' n m H (fun k => (G k ∨ v.ownBlock = some k) ∨ Fn fm bp bc rs dn k)) (k : Keep (fun k => (G k ∨ v.ownBlock = some k) ∨ Fn fm bp bc rs dn k) u u') : Fd W u' hb p g bd' n m H rs G v S fm bp bc dn :=
  ⟨d, h.vr.kept (fun j e => k j (Or.inl (Or.inr e))), h.mp.kept (k fm (Or.inr fnFm)), fun y hy hd => (h.pl y hy hd).kept (fun j e => by rw [plV_own e]; exact k _ (Or.inr (fnBp hy hd))), fun y hy hd => (h.pc y hy hd).kept (fun j e => by rw [plV_own e]; exact k _ (Or.inr (fnBc hy hd))), h.off, h.fmN, h.ne⟩
theorem Fd.below (h : Fd W u hb p g bd n m H rs G v S fm bp bc dn) (b : Below u.heap.size u u') : Fd W u' hb p g bd n m H rs G v S fm bp bc dn := h.move (h.dx.below b) (h.dx.keep b)

theorem Fd.mono (h : Fd W u hb p g bd n m H rs G v S fm bp bc dn) (hc : bd ≤ bd') : Fd W u hb p g bd' n m H rs G v S fm bp bc dn := h.move (h.dx.mono hc) (Keep.refl _ _)

/-- A row is new in the map. -/
theorem Fd.add (h : Fd W u hb p g bd n m H rs G v S fm bp bc dn) {u2 : World} (hrise : Rise rs) {x : Ro} (hx : x ∈ rs) (hd : (x.id : Int) ∉ dn) (b : Below u.heap.size u u') {B1 B2 : Nat} (l1 : u.heap.size ≤ B1 ∧ B1 < u'.heap.size) (l2 : u.heap.size ≤ B2 ∧ B2 < u'.heap.size) (h12 : B1 ≠ B2)
    (hp : IRow u' W.heap.size (.slice (some ⟨B1, 0, none⟩) (cfR rs (x.id : Int)) (cfR rs (x.id : Int))) (plL S x)) (hc : PRow u' W.heap.size (.slice (some ⟨B2, 0, none⟩) (cfR rs (x.id : Int)) (cfR rs (x.id : Int))) (pcL S x))
    (f : Fr (fun k => k = fm) u' u2) (hmp : IMap u2 fm ((x.id : Int) :: dn) (updI (rowV bp bc (cfR rs)) (x.id : Int) (.agg #[.slice (some ⟨B1, 0, none⟩) (cfR rs (x.id : Int)) (cfR rs (x.id : Int)), .slice (some ⟨B2, 0, none⟩) (cfR rs (x.id : Int)) (cfR rs (x.id : Int))]))) :
    Fd W u2 hb p g bd n m H rs G v S fm (updN bp (x.id : Int) B1) (updN bc (x.id : Int) B2) ((x.id : Int) :: dn) := by
  have h1 := h.below b
  have hlt : ∀ k, Fn fm bp bc rs dn k → k < u.heap.size := fun k q => h.dx.lt (Or.inr q)
  have key : ∀ y ∈ rs, (y.id : Int) ∈ (x.id : Int) :: dn → (y = x ∧ updN bp (x.id : Int) B1 (y.id : Int) = B1 ∧ updN bc (x.id : Int) B2 (y.id : Int) = B2) ∨ (y.id ≠ x.id ∧ (y.id : Int) ∈ dn ∧ updN bp (x.id : Int) B1 (y.id : Int) = bp (y.id : Int) ∧ updN bc (x.id : Int) B2 (y.id : Int) = bc (y.id : Int)) := fun y hy hm => by
    by_cases e : y.id = x.id
    · refine Or.inl ⟨rise_one hrise hy hx e, ?_, ?_⟩ <;> (unfold updN; rw [if_pos (by rw [e])])
    · rcases List.mem_cons.1 hm with q | q
      · exact absurd (by omega) e
      · refine Or.inr ⟨e, q, ?_, ?_⟩ <;> (unfold updN; rw [if_neg (by omega)])
  have hfn : ∀ k, Fn fm (updN bp (x.id : Int) B1) (updN bc (x.id : Int) B2) rs ((x.id : Int) :: dn) k → Fn fm bp bc rs dn k ∨ k = B1 ∨ k = B2 := fun k q => by
    rcases q with q | ⟨y, hy, hm, q⟩
    · exact Or.inl (Or.inl q)
    · rcases key y hy hm with ⟨_, e1, e2⟩ | ⟨_, hm2, e1, e2⟩
      · rw [e1, e2] at q; exact Or.inr q
      · rw [e1, e2] at q; exact Or.inl (Or.inr ⟨y, hy, hm2, q⟩)
  have hfl := hlt fm fnFm
  have dA : Dx W u2 hb p g bd n m H (fun k => ((G k ∨ v.ownBlock = some k) ∨ Fn fm bp bc rs dn k) ∨ k = B1 ∨ k = B2) := by
    have d1 : Dx W u' hb p g bd n m H (fun k => ((G k ∨ v.ownBlock = some k) ∨ Fn fm bp bc rs dn k) ∨ k = B1 ∨ k = B2) := h.dx.own (F := fun _ => False) (Fr.of_below b) (fun _ q => q.elim) (fun k q => by
      rcases q with q | q | q
      · exact ⟨Or.inl q, Nat.lt_of_lt_of_le (h.dx.lt q) b.size⟩
      · rw [q]; exact ⟨Or.inr l1.1, l1.2⟩
      · rw [q]; exact ⟨Or.inr l2.1, l2.2⟩)
    exact d1.own f (fun k q => Or.inl (Or.inl (Or.inr (by rw [q]; exact fnFm)))) (fun k q => ⟨Or.inl q, Nat.lt_of_lt_of_le (d1.lt q) f.size⟩)
  have kF : ∀ k, k < u'.heap.size → k ≠ fm → u2.heap[k]? = u'.heap[k]? := fun k a c => f.block k a c
  refine ⟨dA.less (fun k q => ?_), h1.vr.kept (fun j e => kF j (h1.dx.lt (Or.inl (Or.inr e))) (fun z => h.off fm fnFm (Or.inr (by rw [← z]; exact e)))), hmp.congr (fun i => Iff.rfl) hmp.nd (fun i hi => ?_), fun y hy hm => ?_, fun y hy hm => ?_, fun k q => ?_, fun y hy hm => ?_, fun y hy z hz hm hmz => ?_⟩
  · rcases q with q | q
    · exact Or.inl (Or.inl q)
    · rcases hfn k q with z | z
      · exact Or.inl (Or.inr z)
      · exact Or.inr z
  · unfold updI rowV updN
    split
    · rename_i e; rw [e]
    · rfl
  · rcases key y hy hm with ⟨e, e1, _⟩ | ⟨_, hm2, e1, _⟩
    · subst e
      unfold plV
      rw [e1]
      exact hp.kept (fun j z => kF j (hp.blk z).2 (fun q => by
        have : B1 = j := by simpa [Value.ownBlock] using z
        omega))
    · unfold plV
      rw [e1]
      have hh := h1.pl y hy hm2
      exact hh.kept (fun j z => kF j (hh.blk z).2 (fun q => (h.fmN y hy hm2).1 (by rw [← q]; exact (plV_own z).symm)))
  · rcases key y hy hm with ⟨e, _, e1⟩ | ⟨_, hm2, _, e1⟩
    · subst e
      unfold plV
      rw [e1]
      exact hc.kept (fun j z => kF j (hc.blk z).2 (fun q => by
        have : B2 = j := by simpa [Value.ownBlock] using z
        omega))
    · unfold plV
      rw [e1]
      have hh := h1.pc y hy hm2
      exact hh.kept (fun j z => kF j (hh.blk z).2 (fun q => (h.fmN y hy hm2).2 (by rw [← q]; exact (plV_own z).symm)))
  · rcases hfn k q with z | z | z
    · exact h.off k z
    · exact fun y => by have := h.dx.lt (Or.inl y); omega
    · exact fun y => by have := h.dx.lt (Or.inl y); omega
  · rcases key y hy hm with ⟨_, e1, e2⟩ | ⟨_, hm2, e1, e2⟩
    · rw [e1, e2]; exact ⟨by omega, by omega⟩
    · rw [e1, e2]; exact h.fmN y hy hm2
  · rcases key y hy hm with ⟨ex, e1, e2⟩ | ⟨nx, hm2, e1, e2⟩ <;> rcases key z hz hmz with ⟨ez, g1, g2⟩ | ⟨nz, hmz2, g1, g2⟩
    · rw [e1, e2, g1, g2, ex, ez]
      exact ⟨h12, fun _ => rfl, fun _ => rfl⟩
    · rw [e1, e2, g1, g2]
      have a1 := hlt _ (fnBp hz hmz2)
      have a2 := hlt _ (fnBc hz hmz2)
      exact ⟨by omega, fun q => by omega, fun q => by omega⟩
    · rw [e1, e2, g1, g2]
      have a1 := hlt _ (fnBp hy hm2)
      have a2 := hlt _ (fnBc hy hm2)
      exact ⟨by omega, fun q => by omega, fun q => by omega⟩
    · rw [e1, e2, g1, g2]
      exact h.ne y hy z hz hm2 hmz2

/-- A piece is laid at its place in its row. -/
theorem Fd.put (h : Fd W u hb p g bd n m H rs G v S fm bp bc dn) (hrise : Rise rs) (hrok : ∀ y ∈ rs, Rok y) {x : Ro} (hx : x ∈ rs) (hd : (x.id : Int) ∈ dn) {a : Nat} {k : Int} (hk : x.ks[a]? = some k) (hnd : x.ks.Nodup) (hoth : ∀ y ∈ rs, y.id ≠ x.id → k ∉ y.ks)
    (f : Fr (fun j => j = bp (x.id : Int) ∨ j = bc (x.id : Int)) u u') (hp : IRow u' W.heap.size (plV bp (cfR rs) (x.id : Int)) ((plL S x).set a k)) (hc : PRow u' W.heap.size (plV bc (cfR rs) (x.id : Int)) ((pcL S x).set a (pcAt x.id x.text a))) :
    Fd W u' hb p g bd n m H rs G v (S ++ [k]) fm bp bc dn := by
  have kF : ∀ j, j < u.heap.size → j ≠ bp (x.id : Int) → j ≠ bc (x.id : Int) → u'.heap[j]? = u.heap[j]? := fun j a c e => f.block j a (fun q => q.elim c e)
  have nv : ∀ j, v.ownBlock = some j → j ≠ bp (x.id : Int) ∧ j ≠ bc (x.id : Int) := fun j e => ⟨fun z => h.off _ (fnBp hx hd) (Or.inr (by rw [z] at e; exact e)), fun z => h.off _ (fnBc hx hd) (Or.inr (by rw [z] at e; exact e))⟩
  refine ⟨h.dx.own f (fun j q => ?_) (fun j q => ⟨Or.inl q, Nat.lt_of_lt_of_le (h.dx.lt q) f.size⟩), h.vr.kept (fun j e => kF j (h.vr.blk e).2 (nv j e).1 (nv j e).2), h.mp.kept (kF fm h.mp.lt (Ne.symm (h.fmN x hx hd).1) (Ne.symm (h.fmN x hx hd).2)), fun y hy hm => ?_, fun y hy hm => ?_, h.off, h.fmN, h.ne⟩
  · rcases q with q | q
    · exact Or.inl (Or.inr (by rw [q]; exact fnBp hx hd))
    · exact Or.inl (Or.inr (by rw [q]; exact fnBc hx hd))
  · by_cases e : y.id = x.id
    · obtain rfl := rise_one hrise hy hx e
      rw [plL_next hnd hk]
      exact hp
    · rw [plL_other (hoth y hy e)]
      have hh := h.pl y hy hm
      obtain ⟨n1, n2, n3⟩ := h.ne y hy x hx hm hd
      exact hh.kept (fun j z => kF j (hh.blk z).2 (fun q => e (n2 (by rw [← q]; exact (plV_own z).symm))) (fun q => n1 (by rw [← q]; exact (plV_own z).symm)))
  · by_cases e : y.id = x.id
    · obtain rfl := rise_one hrise hy hx e
      rw [pcL_next (hrok _ hx).ks hnd hk]
      exact hc
    · rw [pcL_other (hrok _ hy).ks (hoth y hy e)]
      have hh := h.pc y hy hm
      obtain ⟨n1, n2, n3⟩ := h.ne y hy x hx hm hd
      obtain ⟨m1, _, _⟩ := h.ne x hx y hy hd hm
      exact hh.kept (fun j z => kF j (hh.blk z).2 (fun q => m1 (by rw [← q]; exact plV_own z)) (fun q => e (n3 (by rw [← q]; exact (plV_own z).symm))))
theorem row_free {T : TypeId} {sz B n b c : Nat} {xs : List Value} (h : u.ownsRow B T sz (.slice (some ⟨b, 0, none⟩) n c) n xs) (o : Nat) : u.frozen? ⟨b, o, none⟩ = false := by
  rcases h.2 with ⟨e, _⟩ | ⟨b', cap, cur, e, _, hq, _⟩
  · cases e
  · cases e
    exact free_in hq o
theorem Fd.cellP (h : Fd W u hb p g bd n m H rs G v S fm bp bc dn) (hrok : ∀ y ∈ rs, Rok y) (hrise : Rise rs) {x : Ro} (hx : x ∈ rs) (hd : (x.id : Int) ∈ dn) {a : Nat} {k : Int} (hk : x.ks[a]? = some k) (hS : k ∉ S) : u.cell? ⟨bp (x.id : Int), a, none⟩ = some (.int .i64 0) ∧ u.frozen? ⟨bp (x.id : Int), a, none⟩ = false := by
  have hr := h.pl x hx hd
  have hg := plL_get (S := S) hk
  rw [if_neg hS] at hg
  obtain ⟨b, c, e, _, _, _, q⟩ := hr.cell hg
  have eb : bp (x.id : Int) = b := by simpa [plV, Value.ownBlock] using congrArg Value.ownBlock e
  rw [← eb] at q
  clear e
  refine ⟨q, ?_⟩
  have ho := hr.own
  have hl : (plL S x).length = cfR rs (x.id : Int) := by rw [plL_len, (hrok x hx).ks, cfR_of hrise hx]
  rw [hl] at ho
  exact row_free ho a
theorem Fd.cellC (h : Fd W u hb p g bd n m H rs G v S fm bp bc dn) (hrok : ∀ y ∈ rs, Rok y) (hrise : Rise rs) {x : Ro} (hx : x ∈ rs) (hd : (x.id : Int) ∈ dn) {a : Nat} {k : Int} (hk : x.ks[a]? = some k) (hS : k ∉ S) : (u.cell? ⟨bc (x.id : Int), a * 5, none⟩ = some (.int .i64 0) ∧ u.cell? ⟨bc (x.id : Int), a * 5 + 1, none⟩ = some (.int .i64 0) ∧ u.cell? ⟨bc (x.id : Int), a * 5 + 2, none⟩ = some (.int .i64 0) ∧ u.cell? ⟨bc (x.id : Int), a * 5 + 3, none⟩ = some (.int .u32 0) ∧ u.cell? ⟨bc (x.id : Int), a * 5 + 4, none⟩ = some (.string ⟨#[]⟩)) ∧ ∀ o, u.frozen? ⟨bc (x.id : Int), o, none⟩ = false := by
  have hr := h.pc x hx hd
  have ha : a < x.ks.length := (List.getElem?_eq_some_iff.1 hk).1
  have hg : (pcL S x)[a]? = some pc0 := by
    unfold pcL
    rw [List.getElem?_map, List.getElem?_range (by rw [← (hrok x hx).ks]; exact ha)]
    simp [hk, hS]
  obtain ⟨b, c, e, _, _, _, q⟩ := hr.cell pc_len hg
  have eb : bc (x.id : Int) = b := by simpa [plV, Value.ownBlock] using congrArg Value.ownBlock e
  rw [← eb] at q
  clear e
  refine ⟨⟨q 0 _ rfl, q 1 _ rfl, q 2 _ rfl, q 3 _ rfl, q 4 _ rfl⟩, fun o => ?_⟩
  have ho := hr.own
  have hl : (pcL S x).length = cfR rs (x.id : Int) := by rw [pcL_len, cfR_of hrise hx]
  rw [hl] at ho
  exact row_free ho o
theorem Fr.weak {F F' : Nat → Prop} (h : Fr F u u') (hF : ∀ i, F i → F' i) : Fr F' u u' := ⟨h.os, h.tape, h.output, h.size, fun k hk q => h.block k hk (fun z => q (hF k z))⟩
/-- The two stores, in either order. -/
theorem two_a {b1 b2 c a : Nat} {B : Nat} {l : List Int} {r : List Pc} {k : Int} {q : Pc} (hp : IRow u B (.slice (some ⟨b1, 0, none⟩) c c) l) (hc : PRow u B (.slice (some ⟨b2, 0, none⟩) c c) r) (l1 : l.length = c) (l2 : r.length = c) (hne : b1 ≠ b2) :
    Fr (fun j => j = b1 ∨ j = b2) u (putP (u.setCell ⟨b1, a, none⟩ (.int .i64 k)) b2 a q) ∧ IRow (putP (u.setCell ⟨b1, a, none⟩ (.int .i64 k)) b2 a q) B (.slice (some ⟨b1, 0, none⟩) c c) (l.set a k) ∧ PRow (putP (u.setCell ⟨b1, a, none⟩ (.int .i64 k)) b2 a q) B (.slice (some ⟨b2, 0, none⟩) c c) (r.set a q) := by
  have f1 := fr_set u b1 a (.int .i64 k)
  have f2 := fr_putP (u.setCell ⟨b1, a, none⟩ (.int .i64 k)) b2 a q
  have h1 := hp.put a k l1
  have h2 : PRow (u.setCell ⟨b1, a, none⟩ (.int .i64 k)) B (.slice (some ⟨b2, 0, none⟩) c c) r := hc.kept (fun j e => f1.block j (hc.blk e).2 (fun z => by
    have : b2 = j := by simpa [Value.ownBlock] using e
    omega))
  exact ⟨(f1.weak (fun i q => Or.inl q)).then9 (f2.weak (fun i q => Or.inr q)), h1.kept (fun j e => f2.block j (h1.blk e).2 (fun z => by
    have : b1 = j := by simpa [Value.ownBlock] using e
    omega)), h2.put a q l2⟩
theorem two_b {b1 b2 c a : Nat} {B : Nat} {l : List Int} {r : List Pc} {k : Int} {q : Pc} (hp : IRow u B (.slice (some ⟨b1, 0, none⟩) c c) l) (hc : PRow u B (.slice (some ⟨b2, 0, none⟩) c c) r) (l1 : l.length = c) (l2 : r.length = c) (hne : b1 ≠ b2) :
    Fr (fun j => j = b1 ∨ j = b2) u ((putP u b2 a q).setCell ⟨b1, a, none⟩ (.int .i64 k)) ∧ IRow ((putP u b2 a q).setCell ⟨b1, a, none⟩ (.int .i64 k)) B (.slice (some ⟨b1, 0, none⟩) c c) (l.set a k) ∧ PRow ((putP u b2 a q).setCell ⟨b1, a, none⟩ (.int .i64 k)) B (.slice (some ⟨b2, 0, none⟩) c c) (r.set a q) := by
  have f1 := fr_putP u b2 a q
  have f2 := fr_set (putP u b2 a q) b1 a (.int .i64 k)
  have h1 := hc.put a q l2
  have h2 : IRow (putP u b2 a q) B (.slice (some ⟨b1, 0, none⟩) c c) l := hp.kept (fun j e => f1.block j (hp.blk e).2 (fun z => by
    have : b1 = j := by simpa [Value.ownBlock] using e
    omega))
  exact ⟨(f1.weak (fun i q => Or.inr q)).then9 (f2.weak (fun i q => Or.inl q)), h2.put a k l1, h1.kept (fun j e => f2.block j (h1.blk e).2 (fun z => by
    have : b2 = j := by simpa [Value.ownBlock] using e
    omega))⟩
/-- Both stores, in what is found. -/
theorem Fd.lay (h : Fd W u hb p g bd n m H rs G v S fm bp bc dn) (hrise : Rise rs) (hrok : ∀ y ∈ rs, Rok y) {x : Ro} (hx : x ∈ rs) (hd : (x.id : Int) ∈ dn) {a : Nat} {k : Int} (hk : x.ks[a]? = some k) (hnd : x.ks.Nodup) (hoth : ∀ y ∈ rs, y.id ≠ x.id → k ∉ y.ks) :
    Fd W (putP (u.setCell ⟨bp (x.id : Int), a, none⟩ (.int .i64 k)) (bc (x.id : Int)) a (pcAt x.id x.text a)).drew hb p g bd n m H rs G v (S ++ [k]) fm bp bc dn := by
  have hl : (plL S x).length = cfR rs (x.id : Int) := by rw [plL_len, (hrok x hx).ks, cfR_of hrise hx]
  have hl2 : (pcL S x).length = cfR rs (x.id : Int) := by rw [pcL_len, cfR_of hrise hx]
  have hp0 := h.pl x hx hd
  have hc0 := h.pc x hx hd
  unfold plV at hp0 hc0
  obtain ⟨f, hp, hc⟩ := two_a (a := a) (k := k) (q := pcAt x.id x.text a) hp0 hc0 hl hl2 (h.ne x hx x hx hd hd).1
  exact (h.put hrise hrok hx hd hk hnd hoth f hp hc).below (below_drew _)
/-- What is found keeps what others have. -/
theorem Fd.lays (h : Fd W u hb p g bd n m H rs G v S fm bp bc dn) {x : Ro} (hx : x ∈ rs) (hd : (x.id : Int) ∈ dn) (a : Nat) (k : Int) (q : Pc) : Keep G u (putP (u.setCell ⟨bp (x.id : Int), a, none⟩ (.int .i64 k)) (bc (x.id : Int)) a q).drew := by
  have f1 := fr_set u (bp (x.id : Int)) a (.int .i64 k)
  have f2 := fr_putP (u.setCell ⟨bp (x.id : Int), a, none⟩ (.int .i64 k)) (bc (x.id : Int)) a q
  have n1 : ∀ j, G j → j ≠ bp (x.id : Int) := fun j hj z => h.off _ (fnBp hx hd) (Or.inl (by rw [← z]; exact hj))
  have n2 : ∀ j, G j → j ≠ bc (x.id : Int) := fun j hj z => h.off _ (fnBc hx hd) (Or.inl (by rw [← z]; exact hj))
  have hl : ∀ j, G j → j < u.heap.size := fun j hj => h.dx.lt (Or.inl (Or.inl hj))
  generalize u.setCell ⟨bp (x.id : Int), a, none⟩ (.int .i64 k) = u1 at *
  generalize putP u1 (bc (x.id : Int)) a q = u2 at *
  intro j hj
  exact (f2.block j (Nat.lt_of_lt_of_le (hl j hj) f1.size) (n2 j hj)).trans (f1.block j (hl j hj) (n1 j hj))
end
end Go.Proofs.YtkjioabhdglkpaaGreat
end

section
namespace Go.Proofs.YtkjioabhdglkpaaGreat
open Go.RowKit Go.Maps

theorem owned_fst {rs : List Ro} (h : ∀ x ∈ rs, Rok x) : (owned rs).map Prod.fst = rs.flatMap Ro.ks := by
  unfold owned
  rw [List.map_flatMap]
  induction rs with
  | nil => rfl
  | cons x rs ih =>
    rw [List.flatMap_cons, List.flatMap_cons, rowsE_fst (h x (List.mem_cons_self ..)), ih (fun y hy => h y (List.mem_cons_of_mem _ hy))]
theorem ks_apart {rs : List Ro} (h : rs.Pairwise (fun a b => ∀ x ∈ a.ks, ∀ y ∈ b.ks, x ≠ y)) {x y : Ro} (hx : x ∈ rs) (hy : y ∈ rs) (hne : x.id ≠ y.id) {k : Int} (hk : k ∈ x.ks) : k ∉ y.ks := by
  induction rs with
  | nil => cases hx
  | cons z rs ih =>
    rw [List.pairwise_cons] at h
    rcases List.mem_cons.1 hx with e1 | h1 <;> rcases List.mem_cons.1 hy with e2 | h2
    · exact absurd (by rw [e1, e2]) hne
    · subst e1
      exact fun q => h.1 y h2 k hk k q rfl
    · subst e2
      exact fun q => h.1 x h1 k q k hk rfl
    · exact ih h.2 h1 h2

/-- What stands at a place. -/
structure AtP (n : Nat) (H : Hp) (rs : List Ro) (j : Nat) (k : Int) (x : Ro) (a : Nat) : Prop where
  mem : x ∈ rs
  at' : x.ks[a]? = some k
  ent : (k, pb (pcAt x.id x.text a)) ∈ ent n H
  lt : a < cntN x.text.size
  nz : k ≠ 0
  new : k ∉ (placesN n H).take j
  nd : x.ks.Nodup
  oth : ∀ y ∈ rs, y.id ≠ x.id → k ∉ y.ks

section
variable {W w w' : World} {hb p g bd n m : Nat} {H : Hp} {rs : List Ro} {G : Nat → Prop}
theorem at_place (hf : ∀ i, (H i).length ≤ 127) (hp : (ent n H).Perm (owned rs)) (hok : ∀ x ∈ rs, Rok x) {j : Nat} {k : Int} (hj : (placesN n H)[j]? = some k) : ∃ x a, AtP n H rs j k x a := by
  have hP : placesN n H = (Go.Proofs.YtkjioabhdglkpaaGreat.ent n H).map Prod.fst := (ent_fst ..).symm
  have hnd : (placesN n H).Nodup := by rw [hP]; exact ent_keys hf
  have hnk : (rs.flatMap Ro.ks).Nodup := by
    rw [← owned_fst hok]
    exact (hp.map Prod.fst).nodup_iff.1 (ent_keys hf)
  unfold List.Nodup at hnk
  rw [List.pairwise_flatMap] at hnk
  have hj2 := hj
  rw [hP, List.getElem?_map, Option.map_eq_some_iff] at hj2
  obtain ⟨⟨k', r⟩, he, rfl⟩ := hj2
  have hmem := List.mem_of_getElem? he
  have hown := hp.mem_iff.1 hmem
  obtain ⟨x, hx, hz⟩ := List.mem_flatMap.1 hown
  obtain ⟨a, ha⟩ := List.getElem?_of_mem hz
  unfold rowsE at ha
  rw [List.getElem?_zip_eq_some] at ha
  obtain ⟨a1, a2⟩ := ha
  have hok1 := hok x hx
  have hlt : a < cntN x.text.size := by rw [← hok1.ks]; exact (List.getElem?_eq_some_iff.1 a1).1
  rw [List.getElem?_map, pcs_get hlt] at a2
  have hr : pb (pcAt x.id x.text a) = r := by simpa using a2
  refine ⟨x, a, ⟨hx, a1, by rw [hr]; exact hmem, hlt, ent_big hmem, fun q => ?_, hnk.1 x hx, fun y hy hne => ks_apart hnk.2 hx hy (Ne.symm hne) (List.mem_of_getElem? a1)⟩⟩
  obtain ⟨i, hi⟩ := List.getElem?_of_mem q
  have hil : i < j := by
    have := (List.getElem?_eq_some_iff.1 hi).1
    rw [List.length_take] at this
    omega
  rw [List.getElem?_take, if_pos hil] at hi
  obtain ⟨l1, e1⟩ := List.getElem?_eq_some_iff.1 hi
  obtain ⟨l2, e2⟩ := List.getElem?_eq_some_iff.1 hj
  have := (List.getElem_inj hnd).1 (e1.trans e2.symm)
  omega
theorem row_places (hp : (ent n H).Perm (owned rs)) (hok : ∀ x ∈ rs, Rok x) {x : Ro} (hx : x ∈ rs) : ∀ k ∈ x.ks, k ∈ placesN n H := fun k hk => by
  rw [← ent_fst]
  refine (hp.map Prod.fst).mem_iff.2 ?_
  rw [owned_fst hok]
  exact List.mem_flatMap.2 ⟨x, hx, hk⟩

theorem zero_row9 (w : World) : (zeroValue 89).run Tryz.prog w = .ok (.agg #[.slice none 0 0, .slice none 0 0]) w := by kernel_rfl

/-- The end of a region that makes two blocks. -/
def EndBB (A : Nat → Nat → Act) (R : Nat → Nat → World → Prop) : Exit → Act → World → Prop
  | .normal, a, V => ∃ B1 B2, a = A B1 B2 ∧ R B1 B2 V
  | _, _, _ => False
theorem wp_endBB {P : Program} {c : Code} {Q : Exit → Act → World → Prop} {act : Act} {w : World} (A : Nat → Nat → Act) (R : Nat → Nat → World → Prop) (h : c.wp P (EndBB A R) act w) (hk : ∀ B1 B2 V, R B1 B2 V → Q .normal (A B1 B2) V) : c.wp P Q act w := by
  refine Code.wp_mono (fun e a V h => ?_) h
  cases e with
  | normal => obtain ⟨B1, B2, rfl, r⟩ := h; exact hk B1 B2 V r
  | _ => exact (h : False).elim
theorem EndBB.mk {A : Nat → Nat → Act} {R : Nat → Nat → World → Prop} {V : World} {B1 B2 : Nat} (h : R B1 B2 V) : EndBB A R .normal (A B1 B2) V := ⟨B1, B2, rfl, h⟩
theorem made_two (c : Nat) (hc : c ≤ 4000) : ∃ M1 M2 : Obj, (∀ W : World, (Instr.makeSlice 66 (.int .i64 (c : Int)) (.int .i64 (c : Int))).run Tryz.prog W = .ok (.slice (some ⟨W.heap.size, 0, none⟩) c c) (W.alloc M1)) ∧ (∀ W : World, (Instr.makeSlice 75 (.int .i64 (c : Int)) (.int .i64 (c : Int))).run Tryz.prog W = .ok (.slice (some ⟨W.heap.size, 0, none⟩) c c) (W.alloc M2)) ∧
    Hid ((∀ W : World, ∀ B b, B ≤ b → W.heap[b]? = some M1 → IRow W B (.slice (some ⟨b, 0, none⟩) c c) (List.replicate c 0)) ∧ (∀ W : World, ∀ B b, B ≤ b → W.heap[b]? = some M2 → PRow W B (.slice (some ⟨b, 0, none⟩) c c) (List.replicate c pc0))) := by
  obtain ⟨i0, hi, hz0, hz1, hz2⟩ := info_parts Tryz.info3
  obtain ⟨j0, hj, hy0, hy1, hy2⟩ := info_parts Tryz.info126
  refine ⟨.cells (madeCells (Value.int .i64 0).cells ((c : Int).toNat * i0.size)) 3, .cells (madeCells (Value.agg #[.int .i64 0, .int .i64 0, .int .i64 0, .int .u32 0, .string ⟨#[]⟩]).cells ((c : Int).toNat * j0.size)) 126, fun W => ?_, fun W => ?_, fun W B b hB hb => ⟨?_⟩, fun W B b hB hb => ⟨?_⟩⟩
  · have h := run_make (P := Tryz.prog) W 66 3 i0 (.int .i64 0) Tryz.underlying66 hi hz0 .i64 .i64 (c : Int) (c : Int) (by omega) (by omega) (by rw [hz2]; omega) (by omega)
    simpa using h
  · have h := run_make (P := Tryz.prog) W 75 126 j0 _ Tryz.underlying75 hj hy0 .i64 .i64 (c : Int) (c : Int) (by omega) (by omega) (by rw [hy2]; omega) (by omega)
    simpa using h
  · rw [List.length_replicate]
    refine ⟨by simp [intC], Or.inr ⟨b, c, _, rfl, hB, hb, Nat.le_refl _, by unfold maxLen; omega, by rw [size_madeCells, hz1]; simp, ?_⟩⟩
    rw [hz1]
    show ((madeCells #[Value.int .i64 0] ((c : Int).toNat * 1)).toList).take _ = _
    rw [toList_madeCells_one, List.take_of_length_le (by simp)]
    simp [intC]
  · rw [List.length_replicate]
    refine ⟨by rw [flat_len' pc_len]; simp, Or.inr ⟨b, c, _, rfl, hB, hb, Nat.le_refl _, by unfold maxLen; omega, by rw [size_madeCells, hy1]; simp, ?_⟩⟩
    rw [hy1]
    show ((madeCells #[Value.int .i64 0, .int .i64 0, .int .i64 0, .int .u32 0, .string ⟨#[]⟩] ((c : Int).toNat * 5)).toList).take _ = _
    rw [List.take_of_length_le (by simp [madeCells])]
    apply List.ext_getElem?
    intro q
    by_cases hq : q < c * 5
    · have h5 : q % 5 < 5 := Nat.mod_lt _ (by decide)
      have hr : (List.replicate c pc0)[q / 5]? = some pc0 := by rw [List.getElem?_replicate, if_pos (by omega)]
      have hl : (madeCells #[Value.int .i64 0, .int .i64 0, .int .i64 0, .int .u32 0, .string ⟨#[]⟩] ((c : Int).toNat * 5)).toList[q]? = some (#[Value.int .i64 0, .int .i64 0, .int .i64 0, .int .u32 0, .string ⟨#[]⟩][q % 5]!) := by
        simp [madeCells, hq]
      rw [hl]
      have hf := fun u hu => flat_get pc_len (List.replicate c pc0) (q / 5) pc0 hr (q % 5) u hu
      rw [show q / 5 * 5 + q % 5 = q by omega] at hf
      refine (hf _ ?_).symm
      have : q % 5 = 0 ∨ q % 5 = 1 ∨ q % 5 = 2 ∨ q % 5 = 3 ∨ q % 5 = 4 := by omega
      rcases this with e | e | e | e | e <;> rw [e] <;> rfl
    · rw [List.getElem?_eq_none (by simp [madeCells]; omega), List.getElem?_eq_none (by rw [flat_len' pc_len]; simp; omega)]

theorem two_made {c : Nat} {M1 M2 : Obj} (HM : (∀ W : World, ∀ B b, B ≤ b → W.heap[b]? = some M1 → IRow W B (.slice (some ⟨b, 0, none⟩) c c) (List.replicate c 0)) ∧ (∀ W : World, ∀ B b, B ≤ b → W.heap[b]? = some M2 → PRow W B (.slice (some ⟨b, 0, none⟩) c c) (List.replicate c pc0))) {w3 U V : World} {b9 B1 B2 : Nat} {o9 : Obj}
    (h9 : U.heap[b9]? = some o9) (h11 : U.heap[b9 + 1]? = some (.cells #[.slice none 0 0, .slice none 0 0] 89)) (l9 : b9 < U.heap.size) (l11 : b9 + 1 < U.heap.size) (hb : w3.heap.size = b9) (hU : Below b9 w3 U)
    (hV : (V = ((((U.setCell ⟨b9 + 1, 0, none⟩ (.slice (some ⟨B1, 0, none⟩) c c)).setCell ⟨b9 + 1, 1, none⟩ (.slice (some ⟨B2, 0, none⟩) c c)).alloc M1).alloc M2).drew ∧ B1 = U.heap.size ∧ B2 = U.heap.size + 1) ∨ (V = ((((U.setCell ⟨b9 + 1, 0, none⟩ (.slice (some ⟨B1, 0, none⟩) c c)).setCell ⟨b9 + 1, 1, none⟩ (.slice (some ⟨B2, 0, none⟩) c c)).alloc M2).alloc M1).drew ∧ B1 = U.heap.size + 1 ∧ B2 = U.heap.size)) :
    B1 ≠ B2 ∧ (w3.heap.size ≤ B1 ∧ B1 < V.heap.size) ∧ (w3.heap.size ≤ B2 ∧ B2 < V.heap.size) ∧ V.heap[b9]? = some o9 ∧ V.heap[b9 + 1]? = some (.cells #[.slice (some ⟨B1, 0, none⟩) c c, .slice (some ⟨B2, 0, none⟩) c c] 89) ∧ Below w3.heap.size w3 V ∧ (∀ B, B ≤ B1 → IRow V B (.slice (some ⟨B1, 0, none⟩) c c) (List.replicate c 0)) ∧ (∀ B, B ≤ B2 → PRow V B (.slice (some ⟨B2, 0, none⟩) c c) (List.replicate c pc0)) := by
  have s0 := heap_setCell_same U (b9 + 1) 0 _ _ (.slice (some ⟨B1, 0, none⟩) c c) h11
  have s1 := heap_setCell_same _ (b9 + 1) 1 _ _ (.slice (some ⟨B2, 0, none⟩) c c) s0
  have t9 := (heap_setCell_other (U.setCell ⟨b9 + 1, 0, none⟩ (.slice (some ⟨B1, 0, none⟩) c c)) ⟨b9 + 1, 1, none⟩ b9 (.slice (some ⟨B2, 0, none⟩) c c) (by simp)).trans ((heap_setCell_other U ⟨b9 + 1, 0, none⟩ b9 (.slice (some ⟨B1, 0, none⟩) c c) (by simp)).trans h9)
  have bB := (hU.setCell (p := ⟨b9 + 1, 0, none⟩) (by simp) (.slice (some ⟨B1, 0, none⟩) c c)).setCell (p := ⟨b9 + 1, 1, none⟩) (by simp) (.slice (some ⟨B2, 0, none⟩) c c)
  have hsz : ((U.setCell ⟨b9 + 1, 0, none⟩ (.slice (some ⟨B1, 0, none⟩) c c)).setCell ⟨b9 + 1, 1, none⟩ (.slice (some ⟨B2, 0, none⟩) c c)).heap.size = U.heap.size := by simp [World.setCell]
  generalize (U.setCell ⟨b9 + 1, 0, none⟩ (.slice (some ⟨B1, 0, none⟩) c c)).setCell ⟨b9 + 1, 1, none⟩ (.slice (some ⟨B2, 0, none⟩) c c) = U1 at *
  have key : ∀ (o1 o2 : Obj), ((U1.alloc o1).alloc o2).heap.size = U.heap.size + 2 ∧ ((U1.alloc o1).alloc o2).heap[U.heap.size]? = some o1 ∧ ((U1.alloc o1).alloc o2).heap[U.heap.size + 1]? = some o2 ∧ ((U1.alloc o1).alloc o2).heap[b9]? = some o9 ∧ ((U1.alloc o1).alloc o2).heap[b9 + 1]? = some (.cells #[.slice (some ⟨B1, 0, none⟩) c c, .slice (some ⟨B2, 0, none⟩) c c] 89) ∧ Below w3.heap.size w3 ((U1.alloc o1).alloc o2) := fun o1 o2 => by
    have z1 : (U1.alloc o1).heap.size = U1.heap.size + 1 := by simp
    have a1 := heap_alloc_new U1 o1
    have a2 := heap_alloc_new (U1.alloc o1) o2
    rw [z1, hsz] at a2
    rw [hsz] at a1
    refine ⟨by simp [hsz], (Below.heap_alloc _ _ _ (by simp [hsz])).trans a1, a2, ?_, ?_, ?_⟩
    · exact (Below.heap_alloc _ _ _ (by simp [hsz]; omega)).trans ((Below.heap_alloc _ _ _ (by rw [hsz]; exact l9)).trans t9)
    · exact (Below.heap_alloc _ _ _ (by simp [hsz]; omega)).trans ((Below.heap_alloc _ _ _ (by rw [hsz]; exact l11)).trans s1)
    · rw [hb]
      exact (bB.alloc (by omega) o1).alloc (by rw [z1]; omega) o2
  rcases hV with ⟨rfl, rfl, rfl⟩ | ⟨rfl, rfl, rfl⟩
  · obtain ⟨e1, e2, e3, e4, e5, e6⟩ := key M1 M2
    exact ⟨by omega, ⟨by omega, by show _ < ((U1.alloc M1).alloc M2).heap.size; omega⟩, ⟨by omega, by show _ < ((U1.alloc M1).alloc M2).heap.size; omega⟩, e4, e5, e6.drew, fun B hB => HM.1 _ B _ hB e2, fun B hB => HM.2 _ B _ hB e3⟩
  · obtain ⟨e1, e2, e3, e4, e5, e6⟩ := key M2 M1
    exact ⟨by omega, ⟨by omega, by show _ < ((U1.alloc M2).alloc M1).heap.size; omega⟩, ⟨by omega, by show _ < ((U1.alloc M2).alloc M1).heap.size; omega⟩, e4, e5, e6.drew, fun B hB => HM.1 _ B _ hB e3, fun B hB => HM.2 _ B _ hB e2⟩

set_option maxHeartbeats 6400000 in
set_option maxRecDepth 100000 in
theorem find_any9 (d : Dx W w hb p g bd n m H G) (hbd : bd + 3 * n + 6 + 3 * pieN rs ≤ 5000000) (hm : 1 ≤ m) (hn : n ≤ 500) (hp : (ent n H).Perm (owned rs)) (hok : ∀ x ∈ rs, Rok x) (hrise : Rise rs) (hlen : rs.length ≤ 4000) :
    Calls Tryz.prog 41 #[.pointer (some ⟨hb, 0, none⟩)] w fun e w' => ∃ fm bp bc cf, e = .returned (.tuple #[.map (some fm), .int .i64 0]) ∧ Found W w' hb p g (bd + 3 * n + 6 + 3 * pieN rs) n m H rs G fm bp bc cf ∧ Keep G w w' := by
  have hmm := @run_makeMap Tryz.prog
  have cP := d.places (by omega) hm hn
  obtain ⟨V, vok⟩ := d.vok
  have hPl : (placesN n H).length = pieN rs := by rw [← ent_fst, List.length_map, hp.length_eq, owned_len hok]
  have HAt : Hid (∀ j k, (placesN n H)[j]? = some k → ∃ x a, AtP n H rs j k x a) := fun j k h => at_place vok.few hp hok h
  have HPM : Hid ((∀ x ∈ rs, ∀ k ∈ x.ks, k ∈ placesN n H) ∧ (∀ x ∈ rs, Rok x) ∧ Rise rs) := ⟨fun x hx => row_places hp hok hx, hok, hrise⟩
  clear d hp hok hrise vok
  go_enter Tryz.func41, Tryz.ntmps41
  go_wp2_with fail
  refine cP.mono ?_
  rintro e w1 ⟨v, rfl, row, off, d1, k1⟩
  have b2 := below_alloc1 w1 (.map #[] 0)
  have mp2 : IMap (w1.alloc (.map #[] 0)) w1.heap.size [] (rowV (fun _ => 0) (fun _ => 0) (cfR rs)) := IMap.made w1 _
  have dA : Dx W (w1.alloc (.map #[] 0)) hb p g (bd + 3 * n + 6) n m H (fun k => (G k ∨ v.ownBlock = some k) ∨ k = w1.heap.size) := d1.alloc _
  have HF0 : Hid (Fd W (w1.alloc (.map #[] 0)) hb p g (bd + 3 * n + 6) n m H rs G v [] w1.heap.size (fun _ => 0) (fun _ => 0) []) := by
    refine ⟨dA.less (fun k q => ?_), row.below' b2, mp2, fun y _ hy => (by cases hy), fun y _ hy => (by cases hy), fun k q z => ?_, fun y _ hy => (by cases hy), fun y _ _ _ hy => (by cases hy)⟩
    · rcases q with q | q | ⟨x, _, hx, _⟩
      · exact Or.inl q
      · exact Or.inr q
      · cases hx
    · rcases q with q | ⟨x, _, hx, _⟩
      · have := d1.lt z; omega
      · cases hx
  have HK0 : Hid (Keep G w (w1.alloc (.map #[] 0))) := k1.trans ((d1.keep b2).less (fun k q => Or.inl q))
  obtain ⟨va, vc, e, _, _⟩ := row.len
  have HV := (show Hid _ from e)
  rw [e, hPl]
  clear cP off d1 k1 b2 mp2 dA row e
  go_wp2_with fail
  generalize w1.alloc (.map #[] 0) = w2 at *
  generalize w1.heap.size = fm at *
  go_loopw [26] (fun sk wr => ∃ (j : Nat) (bp bc : Int → Nat) (dn : List Int), j ≤ pieN rs ∧ sk = .int .i64 (j : Int) ∧ Hid (Fd W wr hb p g (bd + 3 * n + 6 + 3 * j) n m H rs G v ((placesN n H).take j) fm bp bc dn) ∧ Hid (∀ i, i ∈ dn ↔ ∃ y ∈ rs, (y.id : Int) = i ∧ ∃ k ∈ y.ks, k ∈ (placesN n H).take j) ∧ Hid (Keep G w wr)) (fun sk _ => pieN rs - (Go.RowKit.intOf sk).toNat)
  case atStart => exact ⟨0, _, _, [], Nat.zero_le _, rfl, HF0, fun i => by simp, HK0⟩
  case round =>
    clear HF0 HK0
    obtain ⟨j, bp, bc, dn, hj, rfl, hF, hdn, hk1⟩ := hrel
    by_cases hlt : j < pieN rs
    · have hlt2 : (j : Int) < (pieN rs : Int) := by omega
      have hx : (placesN n H)[j]? = some (placesN n H)[j] := by simp [hPl, hlt]
      generalize (placesN n H)[j] = K at hx
      obtain ⟨x, a, A⟩ := HAt.out j K hx
      obtain ⟨vb, vc', e, _, _, _, s0⟩ := hF.out.vr.cell hx
      have ev := HV.out.symm.trans e
      injection ev with ev1 _ ev3
      subst ev1
      subst ev3
      have hok := HPM.out.2.1 x A.mem
      have cR := hF.out.dx.read (by omega) hm K _ (pc_ok hok.id hok.text A.lt) A.ent
      have HQ : Hid (∃ q : Pc, q = pcAt x.id x.text a) := ⟨_, rfl⟩
      have hid : i64B (x.id : Int) := ⟨by have := hok.id; omega, by have := hok.id; omega⟩
      have HA := (show Hid _ from And.intro A (And.intro hx hok))
      have hcf := cfR_of HPM.out.2.2 A.mem
      have hac : a < cfR rs (x.id : Int) := by rw [hcf]; exact A.lt
      have HCF := (show Hid _ from hcf)
      unfold Pc.val pcAt at cR
      have HSM0 : ∃ sm part, sumN x.id x.text = sm ∧ partN x.text a = part := ⟨_, _, rfl, rfl⟩
      obtain ⟨sm, part, es1, es2⟩ := HSM0
      rw [es1, es2] at cR
      have HSM : Hid (pcAt x.id x.text a = ⟨x.id, a, x.text.size, sm, part⟩) := by show _ = _; unfold pcAt; rw [es1, es2]
      clear es1 es2
      simp only at cR
      clear A hx hok hcf e
      go_wp2_with fail
      refine cR.mono ?_
      rintro e w3 ⟨rfl, d3, k3⟩
      have F3 := hF.out.move d3 k3
      have HK3 : Hid (Keep G w w3) := Keep.trans hk1.out (k3.less (fun k q => Or.inl (Or.inl q)))
      have F4 := F3.below (below_alloc1 w3 (.cells #[.int .i64 (x.id : Int), .int .i64 (a : Int), .int .i64 (x.text.size : Int), .int .u32 (sm : Int), .string part] 126))
      have F3lt : ∀ k, Fn fm bp bc rs dn k → k < w3.heap.size := fun k q => F3.dx.lt (Or.inr q)
      have F3g : ∀ k, G k → k < w3.heap.size := fun k q => F3.dx.lt (Or.inl (Or.inl q))
      have HF3 := (show Hid _ from F3)
      clear cR d3 k3 s0 F3
      by_cases hin : (x.id : Int) ∈ dn
      · have hl := F4.mp.look_yes (t := 85) Tryz.underlying85 (zero_row9 _) hin true
        unfold rowV at hl
        have F5 := F4.below (below_alloc1 _ (.cells #[.slice (some ⟨bp (x.id : Int), 0, none⟩) (cfR rs (x.id : Int)) (cfR rs (x.id : Int)), .slice (some ⟨bc (x.id : Int), 0, none⟩) (cfR rs (x.id : Int)) (cfR rs (x.id : Int))] 89))
        have HF5 := (show Hid _ from F5)
        have HK4 : Hid (Keep G w ((w3.alloc (.cells #[.int .i64 (x.id : Int), .int .i64 (a : Int), .int .i64 (x.text.size : Int), .int .u32 (sm : Int), .string part] 126)).alloc (.cells #[.slice (some ⟨bp (x.id : Int), 0, none⟩) (cfR rs (x.id : Int)) (cfR rs (x.id : Int)), .slice (some ⟨bc (x.id : Int), 0, none⟩) (cfR rs (x.id : Int)) (cfR rs (x.id : Int))] 89))) := fun k hk => by
          have hl := F3g k hk
          exact ((Below.heap_alloc _ _ _ (by simp; omega)).trans (Below.heap_alloc _ _ _ hl)).trans (HK3.out k hk)
        have hz := F5.mp.size (t := 85) Tryz.underlying85
        have hdl : decide ((4096 : Int) < (dn.length : Int)) = false := by
          have := nodup_leI dn (idsR rs) F5.mp.nd (fun z hz => by
            obtain ⟨y, hy, e, _⟩ := (hdn.out z).1 hz
            exact ids_mem.2 ⟨y, hy, e⟩)
          have hl2 : (idsR rs).length = rs.length := by unfold idsR; simp
          simp; omega
        obtain ⟨p0, z0⟩ := F5.cellP HPM.out.2.1 HPM.out.2.2 HA.out.1.mem hin HA.out.1.at' HA.out.1.new
        obtain ⟨⟨q0, q1, q2, q3, q4⟩, zq⟩ := F5.cellC HPM.out.2.1 HPM.out.2.2 HA.out.1.mem hin HA.out.1.at' HA.out.1.new
        have y0 := zq (a * 5)
        have y1 := zq (a * 5 + 1)
        have y2 := zq (a * 5 + 2)
        have y3 := zq (a * 5 + 3)
        have y4 := zq (a * 5 + 4)
        have ln1 : bp (x.id : Int) ≠ w3.heap.size := by have := F3lt _ (fnBp HA.out.1.mem hin); omega
        have ln2 : bc (x.id : Int) ≠ w3.heap.size := by have := F3lt _ (fnBc HA.out.1.mem hin); omega
        have ln3 : bp (x.id : Int) ≠ w3.heap.size + 1 := by have := F3lt _ (fnBp HA.out.1.mem hin); omega
        have ln4 : bc (x.id : Int) ≠ w3.heap.size + 1 := by have := F3lt _ (fnBc HA.out.1.mem hin); omega
        have ln5 : bp (x.id : Int) ≠ bc (x.id : Int) := (HF5.out.ne x HA.out.1.mem x HA.out.1.mem hin hin).1
        have n9 : ((w3.alloc (.cells #[.int .i64 (x.id : Int), .int .i64 (a : Int), .int .i64 (x.text.size : Int), .int .u32 (sm : Int), .string part] 126)).alloc (.cells #[.slice (some ⟨bp (x.id : Int), 0, none⟩) (cfR rs (x.id : Int)) (cfR rs (x.id : Int)), .slice (some ⟨bc (x.id : Int), 0, none⟩) (cfR rs (x.id : Int)) (cfR rs (x.id : Int))] 89)).heap[w3.heap.size]? = some (.cells #[.int .i64 (x.id : Int), .int .i64 (a : Int), .int .i64 (x.text.size : Int), .int .u32 (sm : Int), .string part] 126) := (Below.heap_alloc _ _ _ (by simp)).trans (heap_alloc_new w3 _)
        have n11 := heap_alloc_new (w3.alloc (.cells #[.int .i64 (x.id : Int), .int .i64 (a : Int), .int .i64 (x.text.size : Int), .int .u32 (sm : Int), .string part] 126)) (.cells #[.slice (some ⟨bp (x.id : Int), 0, none⟩) (cfR rs (x.id : Int)) (cfR rs (x.id : Int)), .slice (some ⟨bc (x.id : Int), 0, none⟩) (cfR rs (x.id : Int)) (cfR rs (x.id : Int))] 89)
        rw [show (w3.alloc (.cells #[.int .i64 (x.id : Int), .int .i64 (a : Int), .int .i64 (x.text.size : Int), .int .u32 (sm : Int), .string part] 126)).heap.size = w3.heap.size + 1 by simp] at n11
        have m0 := cell_in n9 0 _ rfl
        have m1 := cell_in n9 1 _ rfl
        have m2 := cell_in n9 2 _ rfl
        have m3 := cell_in n9 3 _ rfl
        have m4 := cell_in n9 4 _ rfl
        have r0 := cell_in n11 0 _ rfl
        have r1 := cell_in n11 1 _ rfl
        clear n9 n11
        generalize hCF : cfR rs (x.id : Int) = cf at *
        have HCF2 := (show Hid _ from hCF)
        clear F4 F5 hCF zq
        have hac2 : decide ((cf : Int) ≤ (a : Int)) = false := by simp; omega
        go_upto_region 19 with fail
        generalize (w3.alloc (.cells #[.int .i64 (x.id : Int), .int .i64 (a : Int), .int .i64 (x.text.size : Int), .int .u32 (sm : Int), .string part] 126)).alloc (.cells #[.slice (some ⟨bp (x.id : Int), 0, none⟩) cf cf, .slice (some ⟨bc (x.id : Int), 0, none⟩) cf cf] 89) = U at *
        generalize w3.heap.size = b9 at *
        have H12 := (show Hid _ from ln5)
        obtain ⟨X1, hX1⟩ : ∃ X, X = bp (x.id : Int) := ⟨_, rfl⟩
        obtain ⟨X2, hX2⟩ : ∃ X, X = bc (x.id : Int) := ⟨_, rfl⟩
        rw [← hX1] at ln1 ln3 ln5 p0 z0 r0
        rw [← hX2] at ln2 ln4 ln5 q0 q1 q2 q3 q4 y0 y1 y2 y3 y4 r1
        rw [← hX1, ← hX2]
        have HX := (show Hid _ from And.intro hX1 hX2)
        clear hX1 hX2
        apply wp_end (R := fun V => V = (putP (U.setCell ⟨X1, a, none⟩ (.int .i64 K)) X2 a ⟨x.id, a, x.text.size, sm, part⟩).drew)
        case h =>
          go_region
          exact EndQ.mk rfl
        intro V hV
        have F6 := HF5.out.lay HPM.out.2.2 HPM.out.2.1 HA.out.1.mem hin HA.out.1.at' HA.out.1.nd HA.out.1.oth
        have K6 := HF5.out.lays HA.out.1.mem hin a K (pcAt x.id x.text a)
        have hVe : V = (putP (U.setCell ⟨bp (x.id : Int), a, none⟩ (.int .i64 K)) (bc (x.id : Int)) a (pcAt x.id x.text a)).drew := by
          rw [hV, HX.out.1, HX.out.2, HSM.out]
        rw [← hVe] at F6 K6
        have HF6 := (show Hid _ from And.intro F6 (HK4.out.trans K6))
        have htk : (placesN n H).take (j + 1) = (placesN n H).take j ++ [K] := take_snoc _ _ _ HA.out.2.1
        have HDN : Hid (∀ i, i ∈ dn ↔ ∃ y ∈ rs, (y.id : Int) = i ∧ ∃ k ∈ y.ks, k ∈ (placesN n H).take (j + 1)) := fun i => by
          rw [hdn.out i, htk]
          constructor
          · rintro ⟨y, hy, e, k, hk, hk2⟩
            exact ⟨y, hy, e, k, hk, List.mem_append_left _ hk2⟩
          · rintro ⟨y, hy, e, k, hk, hk2⟩
            rcases List.mem_append.1 hk2 with q | q
            · exact ⟨y, hy, e, k, hk, q⟩
            · have : k = K := by simpa using q
              subst this
              by_cases ne : y.id = x.id
              · have := (hdn.out (x.id : Int)).1 hin
                rw [← e, ne]
                exact this
              · exact absurd hk (HA.out.1.oth y hy ne)
        have HTK := (show Hid _ from htk)
        clear F6 K6 hVe hV htk p0 z0 q0 q1 q2 q3 q4 y0 y1 y2 y3 y4 m0 m1 m2 m3 m4 r0 r1 HF5 hF hdn
        go_wp2_with fail
        go_roundw
        case rel => exact ⟨j + 1, bp, bc, dn, by omega, by go_num, by rw [HTK.out]; exact HF6.out.1.mono (by omega), HDN, HF6.out.2⟩
        case measure => simp [Go.RowKit.intOf]; omega
      · have hl := F4.mp.look_no (t := 85) Tryz.underlying85 (zero_row9 _) hid hin true
        have F5 := F4.below (below_alloc1 _ (.cells #[.slice none 0 0, .slice none 0 0] 89))
        have HF5 := (show Hid _ from F5)
        have HK4 : Hid (Keep G w ((w3.alloc (.cells #[.int .i64 (x.id : Int), .int .i64 (a : Int), .int .i64 (x.text.size : Int), .int .u32 (sm : Int), .string part] 126)).alloc (.cells #[.slice none 0 0, .slice none 0 0] 89))) := fun k hk => by
          have hl := F3g k hk
          exact ((Below.heap_alloc _ _ _ (by simp; omega)).trans (Below.heap_alloc _ _ _ hl)).trans (HK3.out k hk)
        have n9 : ((w3.alloc (.cells #[.int .i64 (x.id : Int), .int .i64 (a : Int), .int .i64 (x.text.size : Int), .int .u32 (sm : Int), .string part] 126)).alloc (.cells #[.slice none 0 0, .slice none 0 0] 89)).heap[w3.heap.size]? = some (.cells #[.int .i64 (x.id : Int), .int .i64 (a : Int), .int .i64 (x.text.size : Int), .int .u32 (sm : Int), .string part] 126) := (Below.heap_alloc _ _ _ (by simp)).trans (heap_alloc_new w3 _)
        have n11 := heap_alloc_new (w3.alloc (.cells #[.int .i64 (x.id : Int), .int .i64 (a : Int), .int .i64 (x.text.size : Int), .int .u32 (sm : Int), .string part] 126)) (.cells #[.slice none 0 0, .slice none 0 0] 89)
        rw [show (w3.alloc (.cells #[.int .i64 (x.id : Int), .int .i64 (a : Int), .int .i64 (x.text.size : Int), .int .u32 (sm : Int), .string part] 126)).heap.size = w3.heap.size + 1 by simp] at n11
        have HN9 := (show Hid _ from And.intro n9 n11)
        have m0 := cell_in n9 0 _ rfl
        have m1 := cell_in n9 1 _ rfl
        have m2 := cell_in n9 2 _ rfl
        have m3 := cell_in n9 3 _ rfl
        have m4 := cell_in n9 4 _ rfl
        have r0 := cell_in n11 0 _ rfl
        have r1 := cell_in n11 1 _ rfl
        have v0 := free_in n11 0
        have v1 := free_in n11 1
        have l9 : w3.heap.size < ((w3.alloc (.cells #[.int .i64 (x.id : Int), .int .i64 (a : Int), .int .i64 (x.text.size : Int), .int .u32 (sm : Int), .string part] 126)).alloc (.cells #[.slice none 0 0, .slice none 0 0] 89)).heap.size := lt_of_some n9
        have l11 : w3.heap.size + 1 < ((w3.alloc (.cells #[.int .i64 (x.id : Int), .int .i64 (a : Int), .int .i64 (x.text.size : Int), .int .u32 (sm : Int), .string part] 126)).alloc (.cells #[.slice none 0 0, .slice none 0 0] 89)).heap.size := lt_of_some n11
        have cC := count_any' x.text.size (by have := HA.out.2.2.text; omega) ((w3.alloc (.cells #[.int .i64 (x.id : Int), .int .i64 (a : Int), .int .i64 (x.text.size : Int), .int .u32 (sm : Int), .string part] 126)).alloc (.cells #[.slice none 0 0, .slice none 0 0] 89))
        rw [← HCF.out] at cC
        have HUB : Hid (Below w3.heap.size w3 ((w3.alloc (.cells #[.int .i64 (x.id : Int), .int .i64 (a : Int), .int .i64 (x.text.size : Int), .int .u32 (sm : Int), .string part] 126)).alloc (.cells #[.slice none 0 0, .slice none 0 0] 89))) := below2 (below_alloc1 w3 _) (below_alloc1 _ _)
        clear F4 F5 n9 n11
        go_wp2_with fail
        generalize (w3.alloc (.cells #[.int .i64 (x.id : Int), .int .i64 (a : Int), .int .i64 (x.text.size : Int), .int .u32 (sm : Int), .string part] 126)).alloc (.cells #[.slice none 0 0, .slice none 0 0] 89) = U at *
        generalize hb9 : w3.heap.size = b9 at *
        have HB9 := (show Hid _ from hb9)
        clear hb9
        generalize hCF : cfR rs (x.id : Int) = cf at *
        have HCF2 := (show Hid _ from hCF)
        clear hCF
        refine cC.mono ?_
        rintro e w6 ⟨rfl, hw6⟩
        rw [hw6]
        clear cC hw6 w6
        have hcf12 : cf ≤ 12 := by
          have h1 := HCF.out
          have h2 := HA.out.2.2.text
          rw [h1]
          unfold cntN
          omega
        obtain ⟨M1, M2, hk1', hk2', HM⟩ := made_two cf (by omega)
        clear hl
        go_wp2_with fail
        apply wp_endBB (R := fun B1 B2 V => (V = ((((U.setCell ⟨b9 + 1, 0, none⟩ (.slice (some ⟨B1, 0, none⟩) cf cf)).setCell ⟨b9 + 1, 1, none⟩ (.slice (some ⟨B2, 0, none⟩) cf cf)).alloc M1).alloc M2).drew ∧ B1 = U.heap.size ∧ B2 = U.heap.size + 1) ∨ (V = ((((U.setCell ⟨b9 + 1, 0, none⟩ (.slice (some ⟨B1, 0, none⟩) cf cf)).setCell ⟨b9 + 1, 1, none⟩ (.slice (some ⟨B2, 0, none⟩) cf cf)).alloc M2).alloc M1).drew ∧ B1 = U.heap.size + 1 ∧ B2 = U.heap.size))
        case h =>
          go_region
          · generalize U.heap.size + 1 = B2
            generalize U.heap.size = B1
            exact EndBB.mk (B1 := B1) (B2 := B2) (Or.inl ⟨rfl, rfl, rfl⟩)
          · generalize U.heap.size + 1 = B1
            generalize U.heap.size = B2
            exact EndBB.mk (B1 := B1) (B2 := B2) (Or.inr ⟨rfl, rfl, rfl⟩)
        intro B1 B2 V hV
        obtain ⟨g12, gl1, gl2, gV9, gV11, gB, gi, gp⟩ := two_made HM.out HN9.out.1 HN9.out.2 l9 l11 HB9.out HUB.out hV
        have F7 := HF3.out.below gB
        have hdl0 : dn.length ≤ rs.length := by
          have := nodup_leI dn (idsR rs) F7.mp.nd (fun z hz => by
            obtain ⟨y, hy, e, _⟩ := (hdn.out z).1 hz
            exact ids_mem.2 ⟨y, hy, e⟩)
          have hl2 : (idsR rs).length = rs.length := by unfold idsR; simp
          omega
        obtain ⟨w8, hrun, _, s2, f8⟩ := F7.mp.store (t := 85) Tryz.underlying85 (by omega) hid (.agg #[.slice (some ⟨B1, 0, none⟩) cf cf, .slice (some ⟨B2, 0, none⟩) cf cf])
        have mp8 := s2 hin
        have hpn : plL ((placesN n H).take j) x = List.replicate cf 0 := by
          rw [plL_none (fun k hk q => hin ((hdn.out _).2 ⟨x, HA.out.1.mem, rfl, k, hk, q⟩)), HA.out.2.2.ks, ← HCF.out]
        have hpc : pcL ((placesN n H).take j) x = List.replicate cf pc0 := by
          rw [pcL_none HA.out.2.2.ks (fun k hk q => hin ((hdn.out _).2 ⟨x, HA.out.1.mem, rfl, k, hk, q⟩)), ← HCF.out]
        have F8 := HF3.out.add HPM.out.2.2 HA.out.1.mem hin gB gl1 gl2 g12 (by rw [HCF2.out, hpn]; exact gi _ (by have := HF3.out.dx.bel.size; omega)) (by rw [HCF2.out, hpc]; exact gp _ (by have := HF3.out.dx.bel.size; omega)) f8 (by rw [HCF2.out]; exact mp8)
        have HF8 := (show Hid _ from F8)
        have hfm : fm < b9 := by have h1 := HF3.out.dx.lt (Or.inr fnFm); have h2 := HB9.out; omega
        have hBU : U.heap.size ≤ B1 ∧ U.heap.size ≤ B2 := by rcases hV with ⟨_, h1, h2⟩ | ⟨_, h1, h2⟩ <;> omega
        have gW9 := (f8.block b9 (lt_of_some gV9) (by omega)).trans gV9
        have gW11 := (f8.block (b9 + 1) (lt_of_some gV11) (by omega)).trans gV11
        have HK8 : Hid (Keep G w w8) := fun k hk => by
          have hl := HF3.out.dx.lt (Or.inl (Or.inl hk))
          exact ((f8.block k (Nat.lt_of_lt_of_le hl gB.size) (fun e => HF3.out.off fm fnFm (Or.inl (by rw [← e]; exact hk)))).trans (gB.block k hl)).trans (HK3.out k hk)
        clear m0 m1 m2 m3 m4 r0 r1 v0 v1
        have k0 := cell_in gV9 0 _ rfl
        have k11 := cell_in gV11 0 _ rfl
        have k12 := cell_in gV11 1 _ rfl
        have m0 := cell_in gW9 0 _ rfl
        have m1 := cell_in gW9 1 _ rfl
        have m2 := cell_in gW9 2 _ rfl
        have m3 := cell_in gW9 3 _ rfl
        have m4 := cell_in gW9 4 _ rfl
        have r0 := cell_in gW11 0 _ rfl
        have r1 := cell_in gW11 1 _ rfl
        have ln1 : B1 ≠ b9 := by omega
        have ln2 : B2 ≠ b9 := by omega
        have ln3 : B1 ≠ b9 + 1 := by omega
        have ln4 : B2 ≠ b9 + 1 := by omega
        have HDN0 : Hid (∀ i, i ∈ (x.id : Int) :: dn ↔ (i = (x.id : Int) ∨ i ∈ dn)) := fun i => List.mem_cons
        have hin0 : (x.id : Int) ∈ (x.id : Int) :: dn := List.mem_cons_self ..
        have hz := F8.mp.size (t := 85) Tryz.underlying85
        have hdl : decide ((4096 : Int) < (((x.id : Int) :: dn).length : Int)) = false := by simp; omega
        have eb1 : updN bp (x.id : Int) B1 (x.id : Int) = B1 := by unfold updN; rw [if_pos rfl]
        have eb2 : updN bc (x.id : Int) B2 (x.id : Int) = B2 := by unfold updN; rw [if_pos rfl]
        generalize updN bp (x.id : Int) B1 = bp' at *
        generalize updN bc (x.id : Int) B2 = bc' at *
        generalize (x.id : Int) :: dn = dn' at *
        obtain ⟨p0, z0⟩ := F8.cellP HPM.out.2.1 HPM.out.2.2 HA.out.1.mem hin0 HA.out.1.at' HA.out.1.new
        obtain ⟨⟨q0, q1, q2, q3, q4⟩, zq⟩ := F8.cellC HPM.out.2.1 HPM.out.2.2 HA.out.1.mem hin0 HA.out.1.at' HA.out.1.new
        have y0 := zq (a * 5)
        have y1 := zq (a * 5 + 1)
        have y2 := zq (a * 5 + 2)
        have y3 := zq (a * 5 + 3)
        have y4 := zq (a * 5 + 4)
        rw [eb1] at p0 z0
        rw [eb2] at q0 q1 q2 q3 q4 y0 y1 y2 y3 y4
        have HX := (show Hid _ from And.intro eb1.symm eb2.symm)
        have hac2 : decide ((cf : Int) ≤ (a : Int)) = false := by simp; omega
        clear eb1 eb2 mp8 s2 hpn hpc F8 F7 gi gp HM hdl0 gl1 gl2 gV9 gV11 gW9 gW11 gB hV hk1' hk2' f8 zq hBU hfm
        go_upto_region 19 with fail
        apply wp_end (R := fun V => V = (putP (w8.setCell ⟨B1, a, none⟩ (.int .i64 K)) B2 a ⟨x.id, a, x.text.size, sm, part⟩).drew)
        case h =>
          go_region
          exact EndQ.mk rfl
        intro V hV
        have F6 := HF8.out.lay HPM.out.2.2 HPM.out.2.1 HA.out.1.mem hin0 HA.out.1.at' HA.out.1.nd HA.out.1.oth
        have K6 := HF8.out.lays HA.out.1.mem hin0 a K (pcAt x.id x.text a)
        have hVe : V = (putP (w8.setCell ⟨bp' (x.id : Int), a, none⟩ (.int .i64 K)) (bc' (x.id : Int)) a (pcAt x.id x.text a)).drew := by
          rw [hV, HX.out.1, HX.out.2, HSM.out]
        rw [← hVe] at F6 K6
        have HF6 := (show Hid _ from And.intro F6 (HK8.out.trans K6))
        have htk : (placesN n H).take (j + 1) = (placesN n H).take j ++ [K] := take_snoc _ _ _ HA.out.2.1
        have HDN : Hid (∀ i, i ∈ dn' ↔ ∃ y ∈ rs, (y.id : Int) = i ∧ ∃ k ∈ y.ks, k ∈ (placesN n H).take (j + 1)) := fun i => by
          rw [HDN0.out i, hdn.out i, htk]
          constructor
          · rintro (e | ⟨y, hy, e, k, hk, hk2⟩)
            · exact ⟨x, HA.out.1.mem, e.symm, K, List.mem_of_getElem? HA.out.1.at', by simp⟩
            · exact ⟨y, hy, e, k, hk, List.mem_append_left _ hk2⟩
          · rintro ⟨y, hy, e, k, hk, hk2⟩
            rcases List.mem_append.1 hk2 with q | q
            · exact Or.inr ⟨y, hy, e, k, hk, q⟩
            · have : k = K := by simpa using q
              subst this
              by_cases ne : y.id = x.id
              · exact Or.inl (by rw [← e, ne])
              · exact absurd hk (HA.out.1.oth y hy ne)
        have HTK := (show Hid _ from htk)
        clear F6 K6 hVe hV htk p0 z0 q0 q1 q2 q3 q4 y0 y1 y2 y3 y4 m0 m1 m2 m3 m4 r0 r1 HF8 hF hdn HDN0
        go_wp2_with fail
        go_roundw
        case rel => exact ⟨j + 1, bp', bc', dn', by omega, by go_num, by rw [HTK.out]; exact HF6.out.1.mono (by omega), HDN, HF6.out.2⟩
        case measure => simp [Go.RowKit.intOf]; omega
    · obtain rfl : j = pieN rs := by omega
      have htk : (placesN n H).take (pieN rs) = placesN n H := List.take_of_length_le (by omega)
      have hall : ∀ x ∈ rs, (x.id : Int) ∈ dn := fun x hx => by
        have hk := (HPM.out.2.1 x hx).ks
        have hc := cnt_pos x.text.size
        have h0 : x.ks[0]? = some x.ks[0] := List.getElem?_eq_getElem (by omega)
        refine (hdn.out _).2 ⟨x, hx, rfl, x.ks[0], List.mem_of_getElem? h0, ?_⟩
        rw [htk]
        exact HPM.out.1 x hx _ (List.mem_of_getElem? h0)
      have F := hF.out
      rw [htk] at F
      have HX : Hid (Found W wr hb p g (bd + 3 * n + 6 + 3 * pieN rs) n m H rs G fm bp bc (cfR rs) ∧ Keep G w wr) := by
        refine ⟨⟨F.dx.less (fun k q => ?_), F.mp.congr (fun i => ?_) (ids_nodup HPM.out.2.2) (fun _ _ => rfl), fun x hx => ?_, fun x hx => ?_, fun k q z => ?_⟩, hk1.out⟩
        · rcases q with q | q | ⟨x, hx, q⟩
          · exact Or.inl (Or.inl q)
          · exact Or.inr (Or.inl q)
          · exact Or.inr (Or.inr ⟨x, hx, hall x hx, q⟩)
        · rw [ids_mem, hdn.out i]
          constructor
          · rintro ⟨x, hx, e⟩
            have := (hdn.out (x.id : Int)).1 (hall x hx)
            rw [← e]
            exact this
          · rintro ⟨x, hx, e, _⟩
            exact ⟨x, hx, e⟩
        · have := F.pl x hx (hall x hx)
          rw [plL_all (HPM.out.1 x hx)] at this
          exact this
        · have := F.pc x hx (hall x hx)
          rw [pcL_all (HPM.out.2.1 x hx).ks (HPM.out.1 x hx)] at this
          exact this
        · rcases q with q | ⟨x, hx, q⟩
          · exact F.off k (Or.inl q) (Or.inl z)
          · exact F.off k (Or.inr ⟨x, hx, hall x hx, q⟩) (Or.inl z)
      clear F hF hdn hk1 htk hall
      go_wp2_with fail
      go_ret2
      exact ⟨_, _, _, _, rfl, HX.out⟩
end
end Go.Proofs.YtkjioabhdglkpaaGreat
end

section
namespace Go.Proofs.YtkjioabhdglkpaaGreat
open Go.RowKit Go.ChangeShapes Go.WideShapes Go.ChangeAt Go.Deep
open Go.ChangeMaps (open_string shut_string)

theorem cellsStep9 : Tryz.prog.cellsOf 36 = 3 := by kernel_rfl

/-- A step. -/
structure Wp1 where
  kind : Int
  id : Int
  text : ByteArray
structure Wp1.ok (s : Wp1) : Prop where
  kB : i64B s.kind
  iB : i64B s.id
  tB : s.text.size ≤ maxLen
def Wp1.cells (s : Wp1) : List Value := [.int .i64 s.kind, .int .i64 s.id, .string s.text]

section
variable {H : Type} {enc : TypeId × Value → H} {W : World} {base : Nat}
set_option maxRecDepth 100000 in
theorem trod_step9 {fuel : Nat} {cs : List Value} {x : DataW H × List MemPlace} (h : DataW.trod enc Tryz.prog W 0 (fun _ => true) true fuel 36 cs = some x) : ∃ s : Wp1, cs = s.cells ∧ s.ok := by
  obtain ⟨y0, y1, y2, n, _, hl, h0, h1, h2⟩ := trod_struct3 Tryz.underlying36 h
  rw [cellsStep9] at hl
  match cs, hl with
  | [a, b, c], _ =>
    obtain ⟨k, e0, _, w0⟩ := DataW.trod_int (t := 3) Tryz.underlying3 h0
    have hc64 : Tryz.prog.cellsOf 2 = 1 := by kernel_rfl
    obtain ⟨k1, e1, _, w1⟩ := DataW.trod_int (t := 2) Tryz.underlying2 h1
    obtain ⟨k2, e2, w2⟩ := trod_str h2
    simp [Tryz.cellsInt, Tryz.cellsStr, hc64] at e0 e1 e2
    subst e0 e1 e2
    exact ⟨⟨k, k1, k2⟩, rfl, bounds_i64 w0, bounds_i64 w1, w2⟩

set_option maxRecDepth 100000 in
theorem open_steps9 {v : Value} {d : DataW H} {ps : List MemPlace} (hv : Value.okWide Tryz.prog W .any base 22 v) (h : DataW.Trod enc Tryz.prog W 0 (fun _ => true) true 22 v d ps) :
    ∃ (a : Option Addr) (L : List Wp1) (cap : Nat), v = .slice a L.length cap ∧ SlG W a 3 Wp1.cells L ∧ L.length ≤ cap ∧ cap ≤ maxLen ∧ ∀ s ∈ L, s.ok := by
  obtain ⟨a0, len, cap, rfl⟩ := okWide_slice Tryz.underlying22 hv
  obtain ⟨fuel, hf⟩ := h
  obtain ⟨a, L, c, hcs, r1, _, r3, r4, r5⟩ := trod_list (α := Wp1) ⟨0, 0, ⟨#[]⟩⟩ 22 36 3 Tryz.underlying22 cellsStep9 (by decide) Wp1.cells Wp1.ok (fun _ => rfl) (fun fuel cs x h => trod_step9 h) hf
  simp [Value.cells] at hcs
  obtain ⟨rfl, rfl, rfl⟩ := hcs
  exact ⟨_, _, _, rfl, r1, r3, r4, r5⟩
end

/-- The end of a region whose last call answers with a number. -/
def EndX (A : Int → Act) (R : Int → World → Prop) : Exit → Act → World → Prop
  | .normal, a, V => ∃ X, a = A X ∧ R X V
  | _, _, _ => False
theorem wp_endX {P : Program} {c : Code} {Q : Exit → Act → World → Prop} {act : Act} {w : World} (A : Int → Act) (R : Int → World → Prop) (h : c.wp P (EndX A R) act w) (hk : ∀ X V, R X V → Q .normal (A X) V) : c.wp P Q act w := by
  refine Code.wp_mono (fun e a V h => ?_) h
  cases e with
  | normal => obtain ⟨X, rfl, r⟩ := h; exact hk X V r
  | _ => exact (h : False).elim
theorem EndX.mk {A : Int → Act} {R : Int → World → Prop} {V : World} {X : Int} (h : R X V) : EndX A R .normal (A X) V := ⟨X, rfl, h⟩

def fair9 (L : List Wp1) : Bool := decide (L.length ≤ 60) && L.all (fun s => decide (s.text.size ≤ 6000))

set_option maxHeartbeats 800000 in
set_option maxRecDepth 100000 in
theorem fair9_any (a0 : Option Addr) (L : List Wp1) (c : Nat) (w : World) (hL : SlG w a0 3 Wp1.cells L) (hlen : L.length ≤ maxLen) :
    Calls Tryz.prog 10 #[.slice a0 L.length c] w fun e w' => e = .returned (.bool (fair9 L)) ∧ w' = w := by
  have hlen2 : L.length ≤ 9223372036854775807 := by unfold maxLen at hlen; omega
  go_enter Tryz.func10, Tryz.ntmps10
  go_wp2_with fail
  go_loopw [3] (fun si wr => ∃ i : Nat, i ≤ L.length ∧ si = .int .i64 (i : Int) ∧ Hid (wr = w) ∧ Hid (∀ s ∈ L.take i, s.text.size ≤ 6000)) (fun si _ => L.length - (Go.RowKit.intOf si).toNat)
  case atStart => exact ⟨0, Nat.zero_le _, rfl, rfl, fun s hs => by simp at hs⟩
  case round =>
    obtain ⟨i, hi, rfl, hwr, hall⟩ := hrel
    rw [hwr.out]
    clear hwr
    by_cases hlt : i < L.length
    · have hlt2 : (i : Int) < (L.length : Int) := by omega
      have hx : L[i]? = some L[i] := by simp [hlt]
      generalize L[i] = s at hx
      rcases hL with hL | ⟨b, off, rfl, hlb, hcell⟩
      · rw [hL] at hlt; simp at hlt
      have r2 : w.cell? ⟨b, off + i * 3 + 2, none⟩ = some (.string s.text) := hcell i s hx 2 _ rfl
      clear hcell
      by_cases hr : s.text.size ≤ 6000
      · have hr2 : decide ((6000 : Int) < (s.text.size : Int)) = false := by simp; omega
        have HA : Hid (∀ s ∈ L.take (i + 1), s.text.size ≤ 6000) := fun t ht => by
          rw [List.take_add_one, hx] at ht
          rcases List.mem_append.1 ht with q | q
          · exact hall.out t q
          · simp at q; rw [q]; exact hr
        clear hr hx
        go_wp2_with fail
        go_roundw
        case rel => exact ⟨i + 1, by omega, by go_num, True.intro, HA⟩
        case measure => simp [Go.RowKit.intOf]; omega
      · have hr2 : decide ((6000 : Int) < (s.text.size : Int)) = true := by simp; omega
        have hf : fair9 L = false := by
          unfold fair9
          rw [Bool.and_eq_false_iff]
          refine Or.inr ?_
          rw [List.all_eq_false]
          exact ⟨s, List.mem_of_getElem? hx, by simpa using hr⟩
        have HB := (show Hid _ from hf)
        clear hr hx hf
        go_wp2_with fail
        go_ret
        exact ⟨by rw [HB.out]; rfl, rfl⟩
    · obtain rfl : i = L.length := by omega
      rw [List.take_length] at hall
      have hf : fair9 L = decide ((L.length : Int) ≤ 60) := by
        unfold fair9
        have : L.all (fun s => decide (s.text.size ≤ 6000)) = true := by
          rw [List.all_eq_true]
          exact fun s hs => by simpa using hall.out s hs
        rw [this, Bool.and_true]
        simp
        omega
      have HB := (show Hid _ from hf)
      clear hf
      go_wp2_with fail
      go_ret
      exact ⟨by rw [HB.out]; rfl, rfl⟩
theorem fair9_of {L : List Wp1} (h : fair9 L = true) : L.length ≤ 60 ∧ ∀ s ∈ L, s.text.size ≤ 6000 := by
  unfold fair9 at h
  rw [Bool.and_eq_true, List.all_eq_true] at h
  exact ⟨by simpa using h.1, fun s hs => by simpa using h.2 s hs⟩

section
variable {W w w' : World} {rb hb p g bd n m : Nat} {rs : List Ro} {G : Nat → Prop}
theorem Rz.mono {c : Nat} (h : Rz W w rb hb p g bd n m rs G) (hc : bd ≤ c) : Rz W w rb hb p g c n m rs G := by
  obtain ⟨mb, wa, wc, vf, H, r, q⟩ := h.ex
  exact ⟨mb, wa, wc, vf, H, r.mono hc, q⟩
theorem Rz'.mono {c : Nat} (h : Rz' W w w' rb hb p g bd n m rs G) (hc : bd ≤ c) : Rz' W w w' rb hb p g c n m rs G := ⟨h.rz.mono hc, h.keep⟩
theorem Rz.refl (h : Rz W w rb hb p g bd n m rs G) : Rz' W w w rb hb p g bd n m rs G := ⟨h, Keep.refl _ _⟩

theorem putRo_len (x : Ro) : ∀ rs : List Ro, (putRo rs x).length ≤ rs.length + 1
  | [] => by simp [putRo]
  | y :: rs => by
    have := putRo_len x rs
    unfold putRo
    split
    · simp
    · split
      · simp
      · simp; omega

/-- What Put has done at any id. -/
structure PutR (n : Nat) (rs : List Ro) (i : Int) (text : ByteArray) (X : Int) (rs' : List Ro) : Prop where
  out : (X = 1 ∧ (i < 1 ∨ 4611686018427387903 < i) ∧ rs' = rs) ∨ (X = 2 ∧ 1 ≤ i ∧ i ≤ 4611686018427387903 ∧ 4000 < text.size ∧ rs' = rs) ∨ (1 ≤ i ∧ i ≤ 4611686018427387903 ∧ text.size ≤ 4000 ∧ ((X = 50 ∧ n ≤ pieN rs + cntN text.size ∧ rs' = rs) ∨ (X = 0 ∧ ∃ ks, Rok ⟨i.toNat, text, ks⟩ ∧ rs' = putRo rs ⟨i.toNat, text, ks⟩)))
theorem PutR.len {i X : Int} {text : ByteArray} {rs' : List Ro} (h : PutR n rs i text X rs') : rs'.length ≤ rs.length + 1 := by
  rcases h.out with ⟨_, _, rfl⟩ | ⟨_, _, _, _, rfl⟩ | ⟨_, _, _, ⟨_, _, rfl⟩ | ⟨_, ks, _, rfl⟩⟩
  · omega
  · omega
  · omega
  · exact putRo_len _ _
theorem PutR.kept {i X : Int} {text : ByteArray} {rs' : List Ro} (h : PutR n rs i text X rs') (hr : Rise rs) {x : Ro} (hx : x ∈ rs) (hne : (x.id : Int) ≠ i) : x ∈ rs' := by
  rcases h.out with ⟨_, _, rfl⟩ | ⟨_, _, _, _, rfl⟩ | ⟨h1, _, _, ⟨_, _, rfl⟩ | ⟨_, ks, _, rfl⟩⟩
  · exact hx
  · exact hx
  · exact hx
  · exact (mem_putRo hr _ x).2 (Or.inr (mem_delRo.2 ⟨hx, by simp only; omega⟩))
theorem Rz.rise (h : Rz W w rb hb p g bd n m rs G) : Rise rs := by
  obtain ⟨mb, wa, wc, vf, H, r, q⟩ := h.ex
  exact r.rise
theorem Rz.rok (h : Rz W w rb hb p g bd n m rs G) : ∀ x ∈ rs, Rok x := by
  obtain ⟨mb, wa, wc, vf, H, r, q⟩ := h.ex
  exact r.ok

theorem roput_at (h : Rz W w rb hb p g bd n m rs G) (hbd : bd + 12 * (6 * n + 10) ≤ 5000000) (hm : 2 ≤ m) (hn : 1 ≤ n) (hlen : rs.length ≤ 4000) {i : Int} {text : ByteArray} :
    Calls Tryz.prog 12 #[.pointer (some ⟨rb, 0, none⟩), .int .i64 i, .string text] w fun e w' => ∃ X rs', e = .returned (.int .i64 X) ∧ Rz' W w w' rb hb p g (bd + 12 * (6 * n + 10) + 216) n m rs' G ∧ PutR n rs i text X rs' := by
  by_cases h1 : i < 1 ∨ 4611686018427387903 < i
  · refine (roput_arg rb i text w h1).mono ?_
    rintro e w' ⟨rfl, rfl⟩
    exact ⟨_, rs, rfl, h.refl.mono (by omega), ⟨Or.inl ⟨rfl, h1, rfl⟩⟩⟩
  have h2 : 1 ≤ i ∧ i ≤ 4611686018427387903 := by omega
  clear h1
  by_cases h3 : 4000 < text.size
  · refine (roput_long rb i text w h2.1 h2.2 h3).mono ?_
    rintro e w' ⟨rfl, rfl⟩
    exact ⟨_, rs, rfl, h.refl.mono (by omega), ⟨Or.inr (Or.inl ⟨rfl, h2.1, h2.2, h3, rfl⟩)⟩⟩
  have h4 : text.size ≤ 4000 := by omega
  obtain ⟨id, rfl⟩ : ∃ id : Nat, i = (id : Int) := ⟨i.toNat, by omega⟩
  have key : ∀ X w', Pput W w w' rb hb p g (bd + 12 * (6 * n + 10) + 216) n m rs G id text X → ∃ rs', Rz' W w w' rb hb p g (bd + 12 * (6 * n + 10) + 216) n m rs' G ∧ PutR n rs (id : Int) text X rs' := fun X w' q => by
    rcases q.out with ⟨a, ks, b, c⟩ | ⟨a, b, c⟩
    · exact ⟨_, c, ⟨Or.inr (Or.inr ⟨h2.1, h2.2, h4, Or.inr ⟨a, ks, b, rfl⟩⟩)⟩⟩
    · exact ⟨_, c, ⟨Or.inr (Or.inr ⟨h2.1, h2.2, h4, Or.inl ⟨a, b, rfl⟩⟩)⟩⟩
  by_cases hx : (id : Int) ∈ idsR rs
  · obtain ⟨y, hy, e⟩ := ids_mem.1 hx
    obtain rfl : y.id = id := by omega
    refine (roput_old h hbd hm hn hlen hy h4).mono ?_
    rintro e w' ⟨X, rfl, q⟩
    obtain ⟨rs', a, b⟩ := key X w' q
    exact ⟨X, rs', rfl, a, b⟩
  · refine (roput_new h hbd hm hn hlen (by omega) h4 hx).mono ?_
    rintro e w' ⟨X, rfl, q⟩
    obtain ⟨rs', a, b⟩ := key X w' q
    exact ⟨X, rs', rfl, a, b⟩

/-- What Delete has done at any id. -/
structure DelR (rs : List Ro) (i : Int) (X : Int) (rs' : List Ro) : Prop where
  out : (X = 60 ∧ i ∉ idsR rs ∧ rs' = rs) ∨ (X = 0 ∧ i ∈ idsR rs ∧ rs' = delRo rs i.toNat)
theorem DelR.len {i X : Int} {rs' : List Ro} (h : DelR rs i X rs') : rs'.length ≤ rs.length := by
  rcases h.out with ⟨_, _, rfl⟩ | ⟨_, _, rfl⟩
  · omega
  · exact List.length_filter_le _ _
theorem DelR.kept {i X : Int} {rs' : List Ro} (h : DelR rs i X rs') {x : Ro} (hx : x ∈ rs) (hne : (x.id : Int) ≠ i) : x ∈ rs' := by
  rcases h.out with ⟨_, _, rfl⟩ | ⟨_, h1, rfl⟩
  · exact hx
  · obtain ⟨y, hy, e⟩ := ids_mem.1 h1
    exact mem_delRo.2 ⟨hx, by omega⟩
theorem rodel_at (h : Rz W w rb hb p g bd n m rs G) (hbd : bd ≤ 5000000) (hm : 2 ≤ m) {i : Int} (hi : i64B i) :
    Calls Tryz.prog 15 #[.pointer (some ⟨rb, 0, none⟩), .int .i64 i] w fun e w' => ∃ X rs', e = .returned (.int .i64 X) ∧ Rz' W w w' rb hb p g (bd + 108) n m rs' G ∧ DelR rs i X rs' := by
  by_cases hx : i ∈ idsR rs
  · obtain ⟨y, hy, rfl⟩ := ids_mem.1 hx
    refine (rodel_yes h hbd hm hy).mono ?_
    rintro e w' ⟨rfl, q⟩
    exact ⟨_, _, rfl, q, ⟨Or.inr ⟨rfl, hx, by simp⟩⟩⟩
  · refine (rodel_no h hbd hm hi hx).mono ?_
    rintro e w' ⟨rfl, q⟩
    exact ⟨_, _, rfl, q.mono (by omega), ⟨Or.inl ⟨rfl, hx, rfl⟩⟩⟩
theorem Rz.get (h : Rz W w rb hb p g bd n m rs G) (hbd : bd ≤ 5000000) (hm : 1 ≤ m) {x : Ro} (hx : x ∈ rs) :
    Calls Tryz.prog 28 #[.pointer (some ⟨rb, 0, none⟩), .int .i64 (x.id : Int)] w fun e w' => e = .returned (.tuple #[.string x.text, .int .i64 0]) ∧ Rz' W w w' rb hb p g (bd + 36) n m rs G := by
  obtain ⟨mb, wa, wc, vf, H, r, q⟩ := h.ex
  refine (roget_yes r hbd hm q hx).mono ?_
  rintro e w' ⟨rfl, z⟩
  exact ⟨rfl, ⟨mb, wa, wc, vf, H, z.rm, q⟩, z.keep⟩
theorem Rz.drew (h : Rz W w rb hb p g bd n m rs G) : Rz W w.drew rb hb p g bd n m rs G := h.below (below_drew w)
end
end Go.Proofs.YtkjioabhdglkpaaGreat
end

section
namespace Go.Proofs.YtkjioabhdglkpaaGreat
open Go.RowKit

section
variable {W w w' : World} {rb hb p g bd n m : Nat} {rs : List Ro} {G : Nat → Prop} {H : Hp}
theorem entL_le (l : List Sl) : ∀ i, (entL l i).length ≤ l.length := by
  induction l with
  | nil => intro i; exact Nat.le_refl _
  | cons s l ih =>
    intro i
    cases s with
    | none => have := ih (i + 1); simp [entL]; omega
    | some r => have := ih (i + 1); simp [entL]; omega
theorem ent_le (hf : ∀ i, (H i).length ≤ 127) : (ent n H).length ≤ 127 * n := by
  unfold ent
  have key : ∀ l : List Nat, (l.flatMap (fun i => (entL (H i) 0).map (fun x => (128 * (i : Int) + x.1, x.2)))).length ≤ 127 * l.length := by
    intro l
    induction l with
    | nil => simp
    | cons i l ih =>
      have h1 := entL_le (H i) 0
      have h2 := hf i
      rw [List.flatMap_cons, List.length_append, List.length_map, List.length_cons]
      omega
  have h := key (pgsN n)
  have hl : (pgsN n).length = n - 1 := by unfold pgsN; simp
  rw [hl] at h
  omega
theorem Rz.pie_le (h : Rz W w rb hb p g bd n m rs G) : pieN rs ≤ 127 * n := by
  obtain ⟨mb, wa, wc, vf, H, r, q⟩ := h.ex
  obtain ⟨V, ok⟩ := r.dx.vok
  have h1 := ent_le (n := n) ok.few
  rwa [q.length_eq, owned_len r.ok] at h1
theorem Rz.renew (h : Rz W w rb hb p g bd n m rs G) (hbd : bd + 400 * n + 6 ≤ 5000000) (hm : 1 ≤ m) (hn : n ≤ 500) (hlen : rs.length ≤ 4000) :
    Calls Tryz.prog 18 #[.pointer (some ⟨hb, 0, none⟩)] w fun e w' => ∃ rb, e = .returned (.tuple #[.pointer (some ⟨rb, 0, none⟩), .int .i64 0]) ∧ ¬ G rb ∧ Rz' W w w' rb hb p g (bd + 400 * n + 6) n m rs G := by
  have hp := h.pie_le
  obtain ⟨mb, wa, wc, vf, H, r, q⟩ := h.ex
  refine (new_of (find_any9 (r.dx.less (fun k hk => Or.inl hk)) (by omega) hm hn q r.ok r.rise hlen) q r.ok r.rise hlen).mono ?_
  rintro e w' ⟨rb', rfl, a, b⟩
  exact ⟨rb', rfl, a, b.mono (by omega)⟩
theorem Rz.evict (h : Rz W w rb hb p g bd n m rs G) (hbd : bd ≤ 5000000) (k : Int) (hk : i64B k) :
    Calls Tryz.prog 17 #[.pointer (some ⟨p, 0, none⟩), .int .i64 k] w fun e w' => ∃ X, e = .returned (.int .i64 X) ∧ Rz' W w w' rb hb p g (bd + 1) n m rs G := by
  obtain ⟨mb, wa, wc, vf, H, r, q⟩ := h.ex
  refine (r.dx.evict (by omega) k hk).mono ?_
  rintro e w' ⟨X, rfl, d, kp⟩
  exact ⟨X, rfl, ⟨mb, wa, wc, vf, H, r.move d kp, q⟩, kp.less (fun k z => Or.inl z)⟩
/-- Get at any id. -/
theorem Rz.get_no (h : Rz W w rb hb p g bd n m rs G) {i : Int} (hi : i64B i) (hx : i ∉ idsR rs) :
    Calls Tryz.prog 28 #[.pointer (some ⟨rb, 0, none⟩), .int .i64 i] w fun e w' => e = .returned (.tuple #[.string ⟨#[]⟩, .int .i64 60]) ∧ w' = w := by
  obtain ⟨mb, wa, wc, vf, H, r, q⟩ := h.ex
  exact roget_no r hi hx
theorem Rz.pieces_no (h : Rz W w rb hb p g bd n m rs G) {i : Int} (hi : i64B i) (hx : i ∉ idsR rs) :
    Calls Tryz.prog 29 #[.pointer (some ⟨rb, 0, none⟩), .int .i64 i] w fun e w' => e = .returned (.int .i64 0) ∧ w' = w := by
  obtain ⟨mb, wa, wc, vf, H, r, q⟩ := h.ex
  exact Go.Proofs.YtkjioabhdglkpaaGreat.pieces_no r hi hx
theorem Rz.pieces_yes (h : Rz W w rb hb p g bd n m rs G) {x : Ro} (hx : x ∈ rs) :
    Calls Tryz.prog 29 #[.pointer (some ⟨rb, 0, none⟩), .int .i64 (x.id : Int)] w fun e w' => e = .returned (.int .i64 (cntN x.text.size : Int)) ∧ w' = w := by
  obtain ⟨mb, wa, wc, vf, H, r, q⟩ := h.ex
  exact Go.Proofs.YtkjioabhdglkpaaGreat.pieces_yes r hx
end
end Go.Proofs.YtkjioabhdglkpaaGreat
end

section
namespace Go.Proofs.YtkjioabhdglkpaaGreat
open Go.RowKit

def rdC (r : Int × ByteArray) : List Value := [.int .i64 r.1, .string r.2]
theorem rdC_len (r : Int × ByteArray) : (rdC r).length = 2 := rfl
theorem rdC_one (r : Int × ByteArray) : ∀ u ∈ rdC r, u.oneCell' = true := by
  intro u hu
  simp only [rdC, List.mem_cons, List.not_mem_nil, or_false] at hu
  rcases hu with rfl | rfl <;> rfl
abbrev DRow (w : World) (B : Nat) (v : Value) (l : List (Int × ByteArray)) : Prop := GRow 80 2 rdC w B v l
def lgC (i : Int) : List Value := [.int .i64 i]
theorem lgC_len (i : Int) : (lgC i).length = 1 := rfl
theorem lgC_one (i : Int) : ∀ u ∈ lgC i, u.oneCell' = true := by
  intro u hu
  simp only [lgC, List.mem_cons, List.not_mem_nil, or_false] at hu
  rw [hu]; rfl
abbrev LRow (w : World) (B : Nat) (v : Value) (l : List Int) : Prop := GRow 2 1 lgC w B v l
theorem info_ref9 : (Tryz.prog.info? 80).map (fun i => (i.zero, i.size, i.bytes)) = some (some (.agg #[.int .i64 0, .string ⟨#[]⟩]), 2, 24) := by kernel_rfl
theorem info_long9 : (Tryz.prog.info? 2).map (fun i => (i.zero, i.size, i.bytes)) = some (some (.int .i64 0), 1, 8) := by kernel_rfl

/-- The document's rows in memory. -/
structure Rd (B : Nat) (w : World) (q : Nat) (v : Value) (l : List (Int × ByteArray)) : Prop where
  top : w.heap[q]? = some (.cells #[v] 34)
  row : DRow w B v l
  qB : B ≤ q

theorem nodup_fst {l : List (Int × ByteArray)} (h : (l.map Prod.fst).Nodup) {i : Int} {a b : ByteArray} (ha : (i, a) ∈ l) (hb : (i, b) ∈ l) : a = b := by
  induction l with
  | nil => cases ha
  | cons y l ih =>
    rw [List.map_cons, List.nodup_cons] at h
    rcases List.mem_cons.1 ha with e1 | h1 <;> rcases List.mem_cons.1 hb with e2 | h2
    · rw [← e1] at e2; exact (congrArg Prod.snd e2).symm
    · exact absurd (List.mem_map.2 ⟨(i, b), h2, rfl⟩) (by rw [← e1] at h; exact h.1)
    · exact absurd (List.mem_map.2 ⟨(i, a), h1, rfl⟩) (by rw [← e2] at h; exact h.1)
    · exact ih h.2 h1 h2

/-- What find tells. -/
structure RdAt (l : List (Int × ByteArray)) (i X : Int) : Prop where
  out : (X = -1 ∧ ∀ y ∈ l, y.1 ≠ i) ∨ ∃ (k : Nat) (t : ByteArray), X = (k : Int) ∧ l[k]? = some (i, t)

/-- How many pieces all have. -/
def allN (l : List (Int × ByteArray)) : Nat := (l.map (fun r => cntN r.2.size)).sum

section
variable {B : Nat} {w w' : World} {q : Nat} {v : Value} {l : List (Int × ByteArray)}
theorem Rd.ne (h : Rd B w q v l) : v.ownBlock ≠ some q := fun e => by
  rcases h.row.own.2 with ⟨e2, _⟩ | ⟨b, cap, cur, e2, _, hq, _⟩
  · rw [e2] at e; simp [Value.ownBlock] at e
  · rw [e2] at e
    have hb : b = q := by simpa [Value.ownBlock] using e
    rw [hb, h.top] at hq
    simp at hq
theorem Rd.kept (h : Rd B w q v l) (k : ∀ j, (j = q ∨ v.ownBlock = some j) → w'.heap[j]? = w.heap[j]?) : Rd B w' q v l := ⟨(k q (Or.inl rfl)).trans h.top, h.row.kept (fun j e => k j (Or.inr e)), h.qB⟩
theorem Rd.below (h : Rd B w q v l) (b : Below w.heap.size w w') : Rd B w' q v l := h.kept (fun j e => b.block j (e.elim (fun z => by rw [z]; exact lt_of_some h.top) (fun z => (h.row.blk z).2)))

set_option maxHeartbeats 1600000 in
set_option maxRecDepth 100000 in
theorem rdfind_any (h : Rd B w q v l) (hlen : l.length ≤ 100000) (i : Int) :
    Calls Tryz.prog 38 #[.pointer (some ⟨q, 0, none⟩), .int .i64 i] w fun e w' => ∃ X, e = .returned (.int .i64 X) ∧ w' = w ∧ RdAt l i X := by
  obtain ⟨va, vc, rfl, _, _⟩ := h.row.len
  have c0 := cell_in h.top 0 _ rfl
  have HR := (show Hid _ from h.row)
  clear h
  go_enter Tryz.func38, Tryz.ntmps38
  go_wp2_with fail
  go_loopw [5] (fun sk wr => ∃ k : Nat, k ≤ l.length ∧ sk = .int .i64 (k : Int) ∧ Hid (wr = w) ∧ Hid (∀ y ∈ l.take k, y.1 ≠ i)) (fun sk _ => l.length - (Go.RowKit.intOf sk).toNat)
  case atStart => exact ⟨0, Nat.zero_le _, rfl, rfl, fun y hy => by simp at hy⟩
  case round =>
    obtain ⟨k, hk, rfl, hwr, hall⟩ := hrel
    rw [hwr.out]
    clear hwr
    by_cases hlt : k < l.length
    · have hlt2 : (k : Int) < (l.length : Int) := by omega
      have hx : l[k]? = some l[k] := by simp [hlt]
      generalize l[k] = y at hx
      obtain ⟨b, vc', e, _, _, _, s0⟩ := HR.out.cell rdC_len hx
      injection e with e1 e2 e3
      subst e1
      subst e3
      have r0 := s0 0 _ rfl
      rw [Nat.add_zero] at r0
      clear s0
      by_cases hi : y.1 = i
      · subst hi
        have HX := (show Hid _ from hx)
        clear hx
        go_wp2_with fail
        go_ret
        exact ⟨_, rfl, rfl, ⟨Or.inr ⟨k, y.2, rfl, HX.out⟩⟩⟩
      · have hb : (y.1 == i) = false := by simpa using hi
        have HA : Hid (∀ z ∈ l.take (k + 1), z.1 ≠ i) := fun z hz => by
          rw [List.take_add_one, hx] at hz
          rcases List.mem_append.1 hz with p | p
          · exact hall.out z p
          · simp at p; rw [p]; exact hi
        clear hx hi
        go_wp2_with fail
        go_roundw
        case rel => exact ⟨k + 1, by omega, by go_num, True.intro, HA⟩
        case measure => simp [Go.RowKit.intOf]; omega
    · obtain rfl : k = l.length := by omega
      rw [List.take_length] at hall
      go_wp2_with fail
      go_ret
      exact ⟨_, rfl, rfl, ⟨Or.inl ⟨rfl, hall.out⟩⟩⟩

set_option maxHeartbeats 800000 in
set_option maxRecDepth 100000 in
theorem rdget_yes (h : Rd B w q v l) (hlen : l.length ≤ 100000) {i : Int} {t : ByteArray} (hn : (l.map Prod.fst).Nodup) (hi : (i, t) ∈ l) :
    Calls Tryz.prog 43 #[.pointer (some ⟨q, 0, none⟩), .int .i64 i] w fun e w' => e = .returned (.tuple #[.string t, .int .i64 0]) ∧ w' = w := by
  have cF := rdfind_any h hlen i
  obtain ⟨va, vc, rfl, _, _⟩ := h.row.len
  have c0 := cell_in h.top 0 _ rfl
  have HR := (show Hid _ from h.row)
  clear h
  go_enter Tryz.func43, Tryz.ntmps43
  go_wp2_with fail
  refine cF.mono ?_
  rintro e w1 ⟨X, rfl, hw, ⟨hX⟩⟩
  rw [hw]
  clear hw cF
  rcases hX with ⟨_, hno⟩ | ⟨k, t', rfl, hx⟩
  · exact absurd rfl (hno _ hi)
  have ht : t' = t := by
    have h1 := List.mem_of_getElem? hx
    exact nodup_fst hn h1 hi
  subst ht
  have hlt : (k : Int) < (l.length : Int) := by have := (List.getElem?_eq_some_iff.1 hx).1; omega
  obtain ⟨b, vc', e, _, _, _, s0⟩ := HR.out.cell rdC_len hx
  injection e with e1 e2 e3
  subst e1
  have r1 := s0 1 _ rfl
  clear s0 hx
  go_wp2_with fail
  go_ret2
  exact ⟨rfl, rfl⟩
set_option maxHeartbeats 800000 in
set_option maxRecDepth 100000 in
theorem rdget_no (h : Rd B w q v l) (hlen : l.length ≤ 100000) {i : Int} (hi : ∀ y ∈ l, y.1 ≠ i) :
    Calls Tryz.prog 43 #[.pointer (some ⟨q, 0, none⟩), .int .i64 i] w fun e w' => e = .returned (.tuple #[.string ⟨#[]⟩, .int .i64 60]) ∧ w' = w := by
  have cF := rdfind_any h hlen i
  clear h
  go_enter Tryz.func43, Tryz.ntmps43
  go_wp2_with fail
  refine cF.mono ?_
  rintro e w1 ⟨X, rfl, hw, ⟨hX⟩⟩
  rw [hw]
  clear hw cF
  rcases hX with ⟨rfl, _⟩ | ⟨k, t', rfl, hx⟩
  · go_wp2_with fail
    go_ret2
    exact ⟨rfl, rfl⟩
  · exact absurd rfl (hi _ (List.mem_of_getElem? hx))
set_option maxHeartbeats 800000 in
set_option maxRecDepth 100000 in
theorem rdpieces_yes (h : Rd B w q v l) (hlen : l.length ≤ 100000) {i : Int} {t : ByteArray} (hn : (l.map Prod.fst).Nodup) (hi : (i, t) ∈ l) (ht : t.size ≤ 100000) :
    Calls Tryz.prog 44 #[.pointer (some ⟨q, 0, none⟩), .int .i64 i] w fun e w' => e = .returned (.int .i64 (cntN t.size : Int)) ∧ w' = w := by
  have cF := rdfind_any h hlen i
  obtain ⟨va, vc, rfl, _, _⟩ := h.row.len
  have c0 := cell_in h.top 0 _ rfl
  have HR := (show Hid _ from h.row)
  clear h
  obtain ⟨d, hd⟩ : ∃ d, d = t.size / 360 := ⟨_, rfl⟩
  have q1 : (t.size : Int).tdiv 360 = (d : Int) := by rw [Int.tdiv_eq_ediv_of_nonneg (by omega)]; omega
  have q2 : (t.size : Int) / 360 = (d : Int) := by omega
  have hdb : d ≤ 100000 := by omega
  have HC : Hid ((cntN t.size : Int) = (d : Int) + 1) := by show _ = _; unfold cntN; omega
  clear hd
  go_enter Tryz.func44, Tryz.ntmps44
  go_wp2_with fail
  refine cF.mono ?_
  rintro e w1 ⟨X, rfl, hw, ⟨hX⟩⟩
  rw [hw]
  clear hw cF
  rcases hX with ⟨_, hno⟩ | ⟨k, t', rfl, hx⟩
  · exact absurd rfl (hno _ hi)
  have ht' : t' = t := nodup_fst hn (List.mem_of_getElem? hx) hi
  subst ht'
  have hlt : (k : Int) < (l.length : Int) := by have := (List.getElem?_eq_some_iff.1 hx).1; omega
  obtain ⟨b, vc', e, _, _, _, s0⟩ := HR.out.cell rdC_len hx
  injection e with e1 e2 e3
  subst e1
  have r1 := s0 1 _ rfl
  clear s0 hx
  go_wp2_with fail
  go_ret
  exact ⟨by rw [HC.out]; rfl, rfl⟩
set_option maxHeartbeats 800000 in
set_option maxRecDepth 100000 in
theorem rdpieces_no (h : Rd B w q v l) (hlen : l.length ≤ 100000) {i : Int} (hi : ∀ y ∈ l, y.1 ≠ i) :
    Calls Tryz.prog 44 #[.pointer (some ⟨q, 0, none⟩), .int .i64 i] w fun e w' => e = .returned (.int .i64 0) ∧ w' = w := by
  have cF := rdfind_any h hlen i
  clear h
  go_enter Tryz.func44, Tryz.ntmps44
  go_wp2_with fail
  refine cF.mono ?_
  rintro e w1 ⟨X, rfl, hw, ⟨hX⟩⟩
  rw [hw]
  clear hw cF
  rcases hX with ⟨rfl, _⟩ | ⟨k, t', rfl, hx⟩
  · go_wp2_with fail
    go_ret
    exact ⟨rfl, rfl⟩
  · exact absurd rfl (hi _ (List.mem_of_getElem? hx))

theorem allN_take (l : List (Int × ByteArray)) (k : Nat) {y : Int × ByteArray} (hx : l[k]? = some y) : allN (l.take (k + 1)) = allN (l.take k) + cntN y.2.size := by
  rw [List.take_add_one, hx]
  unfold allN
  simp
theorem allN_le (l : List (Int × ByteArray)) (hs : ∀ y ∈ l, y.2.size ≤ 4000) : allN l ≤ 12 * l.length := by
  unfold allN
  induction l with
  | nil => simp
  | cons y l ih =>
    have h1 := hs y (List.mem_cons_self ..)
    have h2 := ih (fun z hz => hs z (List.mem_cons_of_mem _ hz))
    simp only [List.map_cons, List.sum_cons, List.length_cons]
    have : cntN y.2.size ≤ 12 := by unfold cntN; omega
    omega
set_option maxHeartbeats 1600000 in
set_option maxRecDepth 100000 in
theorem rdall_any (h : Rd B w q v l) (hlen : l.length ≤ 5000) (hs : ∀ y ∈ l, y.2.size ≤ 4000) :
    Calls Tryz.prog 13 #[.pointer (some ⟨q, 0, none⟩)] w fun e w' => e = .returned (.int .i64 (allN l : Int)) ∧ w' = w := by
  obtain ⟨va, vc, rfl, _, _⟩ := h.row.len
  have c0 := cell_in h.top 0 _ rfl
  have HR := (show Hid _ from h.row)
  have HS := (show Hid _ from hs)
  clear h hs
  go_enter Tryz.func13, Tryz.ntmps13
  go_wp2_with fail
  go_loopw [3, 4] (fun sn sk wr => ∃ k N : Nat, k ≤ l.length ∧ sk = .int .i64 (k : Int) ∧ sn = .int .i64 (N : Int) ∧ N ≤ 60000 ∧ Hid (N = allN (l.take k)) ∧ Hid (wr = w)) (fun _ sk _ => l.length - (Go.RowKit.intOf sk).toNat)
  case atStart => exact ⟨0, 0, Nat.zero_le _, rfl, rfl, Nat.zero_le _, rfl, rfl⟩
  case round =>
    obtain ⟨k, N, hk, rfl, rfl, hN, hNe, hwr⟩ := hrel
    rw [hwr.out]
    clear hwr
    by_cases hlt : k < l.length
    · have hlt2 : (k : Int) < (l.length : Int) := by omega
      have hx : l[k]? = some l[k] := by simp [hlt]
      generalize l[k] = y at hx
      have hsz := HS.out y (List.mem_of_getElem? hx)
      obtain ⟨b, vc', e, _, _, _, s0⟩ := HR.out.cell rdC_len hx
      injection e with e1 e2 e3
      subst e1
      subst e3
      have r1 := s0 1 _ rfl
      obtain ⟨yi, t⟩ := y
      simp only at r1 hsz
      have hst := allN_take l k hx
      have hN2 : N + cntN t.size ≤ 60000 := by
        have h1 := allN_le (l.take (k + 1)) (fun z hz => HS.out z (List.mem_of_mem_take hz))
        rw [hst, ← hNe.out, List.length_take] at h1
        simp only at h1
        omega
      obtain ⟨d, hd⟩ : ∃ d, d = t.size / 360 := ⟨_, rfl⟩
      have q1 : (t.size : Int).tdiv 360 = (d : Int) := by rw [Int.tdiv_eq_ediv_of_nonneg (by omega)]; omega
      have q2 : (t.size : Int) / 360 = (d : Int) := by omega
      have hdb : d ≤ 100 := by omega
      have HC : Hid (cntN t.size = d + 1) := by show _ = _; unfold cntN; omega
      have HST : Hid (N + cntN t.size = allN (l.take (k + 1))) := by show _ = _; rw [hst, ← hNe.out]
      have HN2 := (show Hid _ from hN2)
      clear s0 hx hd hst hN2
      go_wp2_with fail
      go_roundw
      case rel => exact ⟨k + 1, N + (d + 1), by omega, by go_num, by go_num, by have h1 := HN2.out; rw [HC.out] at h1; exact h1, by have h1 := HST.out; rw [HC.out] at h1; exact h1, True.intro⟩
      case measure => simp [Go.RowKit.intOf]; omega
    · obtain rfl : k = l.length := by omega
      rw [List.take_length] at hNe
      go_wp2_with fail
      go_ret
      exact ⟨by rw [← hNe.out]; rfl, rfl⟩
end
end Go.Proofs.YtkjioabhdglkpaaGreat
end

section
namespace Go.Proofs.YtkjioabhdglkpaaGreat
open Go.RowKit

section
variable {B : Nat} {w w' : World} {q : Nat} {v : Value} {l : List (Int × ByteArray)}
theorem long_src (w : World) (x : Int) : ∀ j u, ([x].flatMap lgC)[j]? = some u → (w.alloc (.cells #[.int .i64 x] 2)).cell? ((⟨w.heap.size, 0, none⟩ : Addr).add j) = some u := by
  intro j u hu
  rw [Addr.add_lit]
  match j, hu with
  | 0, hu =>
    have : Value.int .i64 x = u := by simpa [lgC] using hu
    rw [← this]
    exact cell_in (heap_alloc_new w _) 0 _ rfl
  | j + 1, hu => simp [lgC] at hu

set_option maxHeartbeats 1600000 in
set_option maxRecDepth 100000 in
theorem rdids_any (h : Rd B w q v l) (hlen : l.length ≤ 5000) :
    Calls Tryz.prog 27 #[.pointer (some ⟨q, 0, none⟩)] w fun e w' => ∃ a c, e = .returned (.slice a (l.map Prod.fst).length c) ∧ LRow w' w.heap.size (.slice a (l.map Prod.fst).length c) (l.map Prod.fst) ∧ Below w.heap.size w w' := by
  obtain ⟨va, vc, rfl, _, _⟩ := h.row.len
  have HH := (show Hid _ from h)
  clear h
  go_enter Tryz.func27, Tryz.ntmps27
  go_wp2_with fail
  go_loopw [3, 4] (fun sv sk wr => ∃ k : Nat, k ≤ l.length ∧ sk = .int .i64 (k : Int) ∧ LRow wr w.heap.size sv ((l.take k).map Prod.fst) ∧ Hid (Below w.heap.size w wr)) (fun _ sk _ => l.length - (Go.RowKit.intOf sk).toNat)
  case atStart => exact ⟨0, Nat.zero_le _, rfl, grow_nil _ _ _ _ _, Below.refl _ _⟩
  case round =>
    obtain ⟨k, hk, rfl, hr, hb⟩ := hrel
    have h1 := HH.out.below hb.out
    have c0 := cell_in h1.top 0 _ rfl
    by_cases hlt : k < l.length
    · have hlt2 : (k : Int) < (l.length : Int) := by omega
      have hx : l[k]? = some l[k] := by simp [hlt]
      generalize l[k] = y at hx
      obtain ⟨b, vc', e, _, _, _, s0⟩ := h1.row.cell rdC_len hx
      injection e with e1 e2 e3
      subst e1
      subst e3
      have r0 := s0 0 _ rfl
      rw [Nat.add_zero] at r0
      have hst : (l.take (k + 1)).map Prod.fst = (l.take k).map Prod.fst ++ [y.1] := by rw [List.take_add_one, hx]; simp
      have HST := (show Hid _ from hst)
      obtain ⟨yi, t⟩ := y
      simp only at r0
      have hb1 := below2 hb.out (below_alloc1 wr (.cells #[.int .i64 yi] 2))
      have hr1 := hr.below' (below_alloc1 wr (.cells #[.int .i64 yi] 2))
      have hsrc := long_src wr yi
      have hll : ((l.take k).map Prod.fst).length ≤ 5000 := by simp; omega
      generalize (l.take k).map Prod.fst = L at *
      obtain ⟨ra, rc, rfl, _, _⟩ := hr.len
      clear s0 hx hst h1
      go_wp2_with (at_builtin; refine wpList_append_row lgC_len lgC_one Tryz.underlying58 info_long9 rfl (by decide) (by decide) _ rfl _ _ rfl w.heap.size _ L [yi] rfl hr1 ⟨wr.heap.size, 0, none⟩ 1 (by simp; rfl) hsrc (by simp; omega) hb1.size ?_; intro v' w' hrow' hfr hnew)
      go_roundw
      case rel => exact ⟨k + 1, by omega, by go_num, by rw [HST.out]; exact hrow', hfr.below hb1 hb1.size (fun k e => (hr1.blk e).1)⟩
      case measure => simp [Go.RowKit.intOf]; omega
    · obtain rfl : k = l.length := by omega
      rw [List.take_length] at hr
      have hlt2 : decide ((l.length : Int) < (l.length : Int)) = false := by simp
      obtain ⟨ra, rc, rfl, _, _⟩ := hr.len
      have HR := (show Hid _ from hr)
      generalize hn : (l.map Prod.fst).length = nn at *
      have HN := (show Hid _ from hn)
      clear hr h1 hn
      go_wp2_with fail
      go_ret
      have hn2 := HN.out
      subst hn2
      exact ⟨ra, rc, rfl, HR.out, hb.out⟩

set_option maxHeartbeats 1600000 in
set_option maxRecDepth 100000 in
/-- hedgerowkeep.Longs at equal lists. -/
theorem longs_any {A A' : Option Addr} {c c' : Nat} {L : List Int} {B B' : Nat} (h : LRow w B (.slice A L.length c) L) (h' : LRow w B' (.slice A' L.length c') L) :
    Calls Tryz.prog 25 #[.slice A L.length c, .slice A' L.length c'] w fun e w' => e = .returned (.bool true) ∧ Below w.heap.size w w' := by
  have HH := (show Hid _ from And.intro h h')
  have hl : L.length ≤ 9223372036854775807 := by
    obtain ⟨_, _, _, h1, h2⟩ := h.len
    unfold maxLen at h2
    omega
  clear h h'
  go_enter Tryz.func25, Tryz.ntmps25
  go_wp2_with fail
  go_loopw [5] (fun sk wr => ∃ k : Nat, k ≤ L.length ∧ sk = .int .i64 (k : Int) ∧ Hid (Below w.heap.size w wr)) (fun sk _ => L.length - (Go.RowKit.intOf sk).toNat)
  case atStart => exact ⟨0, Nat.zero_le _, rfl, Below.refl _ _⟩
  case round =>
    obtain ⟨k, hk, rfl, hb⟩ := hrel
    by_cases hlt : k < L.length
    · have hlt2 : (k : Int) < (L.length : Int) := by omega
      have hx : L[k]? = some L[k] := by simp [hlt]
      generalize L[k] = y at hx
      obtain ⟨b, vc1, e, _, _, lb, s0⟩ := HH.out.1.cell lgC_len hx
      injection e with e1 e2 e3
      subst e1
      subst e3
      obtain ⟨b', vc2, e', _, _, lb', s0'⟩ := HH.out.2.cell lgC_len hx
      injection e' with e4 e5 e6
      subst e4
      subst e6
      have r0 := s0 0 _ rfl
      rw [Nat.mul_one, Nat.add_zero] at r0
      have r1 := s0' 0 _ rfl
      rw [Nat.mul_one, Nat.add_zero] at r1
      have c1 := (hb.out.cell (p := ⟨b, k, none⟩) lb).trans r0
      have c2 := (hb.out.cell (p := ⟨b', k, none⟩) lb').trans r1
      have HB := (show Hid _ from hb.out.drew)
      clear s0 s0' hx r0 r1
      go_wp2_with fail
      go_region
      go_wp2_with fail
      go_roundw
      case rel => exact ⟨k + 1, by omega, by go_num, HB⟩
      case measure => simp [Go.RowKit.intOf]; omega
    · obtain rfl : k = L.length := by omega
      have hlt2 : decide ((L.length : Int) < (L.length : Int)) = false := by simp
      go_wp2_with fail
      go_ret
      exact ⟨rfl, hb.out⟩
end
end Go.Proofs.YtkjioabhdglkpaaGreat
end

section
namespace Go.Proofs.YtkjioabhdglkpaaGreat
open Go.RowKit

section
variable {P : Program} {md : Region.Mode} {ops : Array Oper} {Q : Exit → Act → World → Prop} {S : World → Prop} {n : Nat}

/-- Any order of what is left; behind each operation but the one with the number n the world meets S. -/
def AnyL (P : Program) (md : Region.Mode) (ops : Array Oper) (Q : Exit → Act → World → Prop) (S : World → Prop) (n : Nat) : Nat → Array Bool → Act → World → Prop
  | 0, l, a, w => Region.ready md ops l = [] ∧ Q .normal a w
  | k + 1, l, a, w => (Region.ready md ops l = [] → Q .normal a w) ∧ ∀ j ∈ Region.ready md ops l, wpOp P ops Q j (fun a' w' => (j ≠ n → S w') ∧ AnyL P md ops Q S n k (l.setIfInBounds j true) a' w') a w

theorem AnyL.plain (k : Nat) : ∀ (l : Array Bool) (a : Act) (w : World), AnyL P md ops Q S n k l a w → wpAny P md ops Q k l a w := by
  induction k with
  | zero => exact fun _ _ _ h => h
  | succ k ih => exact fun l a w h => ⟨h.1, fun j hj => wpOp_mono (fun a' w' q => ih _ a' w' q.2) (h.2 j hj)⟩

theorem anyL_begin {id : Nat} {a : Act} {w : World} (hm : P.follows .mixedOrders = true) (hS : S w.drew) (h : S w.drew → AnyL P .any ops Q S n ops.size (Array.replicate ops.size false) a w.drew) : (Code.region id ops true).wp P Q a w :=
  wp_region_any hm (AnyL.plain _ _ _ _ (h hS))

/-- Does n wait for i? -/
def waitsFor (md : Region.Mode) (ops : Array Oper) (n i : Nat) : Bool :=
  match ops[n]? with
  | some o => o.after.any (fun e => Region.binds md e && e.on == i)
  | none => false

theorem not_last {i j : Nat} {l : Array Bool} (hw : waitsFor md ops n i = true) (hi : i ∈ Region.ready md ops l) (hj : j ∈ Region.ready md ops l) : j ≠ n := by
  rintro rfl
  obtain ⟨_, o, ho, hall⟩ := mem_ready.1 hj
  have hun := (mem_ready.1 hi).1
  unfold waitsFor at hw
  rw [ho] at hw
  obtain ⟨e, he, hb⟩ := Array.any_eq_true'.1 hw
  rw [Bool.and_eq_true, beq_iff_eq] at hb
  have hin := hall e he hb.1
  rw [hb.2, Array.getD_eq_getD_getElem?] at hin
  rw [Array.getD_eq_getD_getElem?] at hun
  cases hx : l[i]? with
  | none => rw [hx] at hin; cases hin
  | some b => rw [hx] at hin hun; simp at hin hun; rw [hin] at hun; cases hun

theorem takeAny {i : Nat} {oi : Oper} {v : Value} (hi : ops[i]? = some oi) (hsel : Region.noSelect ops = true) (hQ : ∀ c a w, Q (.panic c) (a.put oi.dst v) w → Q (.panic c) a w) (hw : waitsFor md ops n i = true) (k : Nat) :
    ∀ (l : Array Bool) (a : Act) (w : World), (∀ j oj, ops[j]? = some oj → j ≠ i → l.getD j true = false → (∀ e ∈ oj.after, Region.binds md e = true → e.on ≠ i) → oi.apart ops oj = true) → i ∈ Region.ready md ops l → YieldsIf P ops S oi v a → S w →
      AnyL P md ops Q S n k (l.setIfInBounds i true) (a.put oi.dst v) w → AnyL P md ops Q S n (k + 1) l a w := by
  induction k with
  | zero =>
    intro l a w _ hr hy hS H
    refine ⟨fun q => (by rw [q] at hr; cases hr), fun j hj => ?_⟩
    have e : j = i := Decidable.byContradiction fun ne => by
      have q := ready_mono hj ne
      rw [H.1] at q
      cases q
    rw [e]
    exact hy.wpOp hi hS ⟨fun _ => hS, H⟩
  | succ k ih =>
    intro l a w hf hr hy hS H
    refine ⟨fun q => (by rw [q] at hr; cases hr), fun j hj => ?_⟩
    rcases Decidable.em (j = i) with e | ne
    · rw [e]
      exact hy.wpOp hi hS ⟨fun _ => hS, H⟩
    · have hjn := not_last hw hr hj
      obtain ⟨hun, oj, hoj, hall⟩ := mem_ready.1 hj
      have hno : ∀ e ∈ oj.after, Region.binds md e = true → e.on ≠ i := by
        intro e he hb q
        have h1 := hall e he hb
        have h0 := (mem_ready.1 hr).1
        rw [q, Array.getD_eq_getD_getElem?] at h1
        rw [Array.getD_eq_getD_getElem?] at h0
        cases hx : l[i]? with
        | none => rw [hx] at h1; cases h1
        | some b => rw [hx] at h1 h0; simp at h1 h0; rw [h1] at h0; cases h0
      have step := wpOp_putIf hoj (hf j oj hoj ne hun hno) (fun cs b => Region.noSelect_spec hsel i oi cs b hi) (fun cs b => Region.noSelect_spec hsel j oj cs b hoj) hQ hy (H.2 j (ready_mono hj ne))
      refine wpOp_mono (fun a' w' q => ⟨q.2.1, ?_⟩) step
      refine ih _ a' w' (fun m om hm hmi hmu hmn => hf m om hm hmi ?_ hmn) (ready_mono hr (Ne.symm ne)) q.1 (q.2.1 hjn) ?_
      · rcases Decidable.em (j = m) with e | ne'
        · rw [← e]; exact hun
        · rw [getD_set_ne true ne'] at hmu; exact hmu
      · rw [Array.setIfInBounds_comm _ _ ne]
        exact q.2.2

theorem takeL (i d : Nat) {oi : Oper} {v : Value} {k : Nat} {l : Array Bool} {ts : Array Value} {df : List Deferred} {w : World} (hi : ops[i]? = some oi) (hd : oi.dst = some d)
    (hs : Region.noSelect ops = true) (hf : Region.free md ops l i = true) (hr : (Region.ready md ops l).contains i = true) (hw : waitsFor md ops n i = true)
    (hQ : ∀ c a w, Q (.panic c) (a.put (some d) v) w → Q (.panic c) a w) (hy : YieldsIf P ops S oi v ⟨ts, df⟩) (hS : S w)
    (h : AnyL P md ops Q S n k (l.setIfInBounds i true) ⟨ts.setIfInBounds d v, df⟩ w) : AnyL P md ops Q S n (k + 1) l ⟨ts, df⟩ w := by
  refine takeAny hi hs (by rw [hd]; exact hQ) hw k l _ w (Region.free_spec hi hf) (by simpa using hr) hy hS ?_
  rw [hd]
  exact h

/-- What an operation that comes up is asked. -/
def UpL (P : Program) (md : Region.Mode) (ops : Array Oper) (Q : Exit → Act → World → Prop) (S : World → Prop) (n k : Nat) (l : Array Bool) (a : Act) (w : World) (i : Nat) : Prop :=
  wpOp P ops Q i (fun a' w' => (i ≠ n → S w') ∧ AnyL P md ops Q S n k (l.setIfInBounds i true) a' w') a w

theorem upL {k : Nat} {l : Array Bool} {a : Act} {w : World} {i : Nat} {o : Oper} (ho : ops[i]? = some o)
    (h : ∀ K : Act → World → Prop, Shut (∀ a w, (i ≠ n → S w) → ((i ≠ n → S w) → AnyL P md ops Q S n k (l.setIfInBounds i true) a w) → K a w) → if Region.wanted o (yielded ops a.tmps) = true then Oper.wp P o a w K Q else K (a.put o.dst undef) w) : UpL P md ops Q S n k l a w i :=
  wpOp_step ho (fun K hK => h K (fun a w h1 h2 => hK a w ⟨h1, h2 h1⟩))

theorem anyL_one {k : Nat} {l : Array Bool} {a : Act} {w : World} (i : Nat) (hr : Region.ready md ops l = [i]) (h : UpL P md ops Q S n k l a w i) : AnyL P md ops Q S n (k + 1) l a w :=
  ⟨fun q => (by rw [q] at hr; cases hr), fun j hj => by rw [hr, List.mem_singleton] at hj; rw [hj]; exact h⟩
theorem anyL_two {k : Nat} {l : Array Bool} {a : Act} {w : World} (i m : Nat) (hr : Region.ready md ops l = [i, m]) (h : UpL P md ops Q S n k l a w i) (h2 : UpL P md ops Q S n k l a w m) : AnyL P md ops Q S n (k + 1) l a w :=
  ⟨fun q => (by rw [q] at hr; cases hr), fun j hj => by
    rw [hr] at hj
    rcases List.mem_cons.1 hj with e | q
    · rw [e]; exact h
    · rw [List.mem_singleton] at q; rw [q]; exact h2⟩
theorem anyL_done {l : Array Bool} {a : Act} {w : World} (hr : Region.ready md ops l = []) (h : Q .normal a w) : ∀ k, AnyL P md ops Q S n k l a w
  | 0 => ⟨hr, h⟩
  | _ + 1 => ⟨fun _ => h, by rw [hr]; exact fun _ q => by cases q⟩
end
end Go.Proofs.YtkjioabhdglkpaaGreat
end

section
namespace Go.Proofs.YtkjioabhdglkpaaGreat
open Go.RowKit

section
variable {B : Nat} {w w' : World} {q : Nat} {v : Value} {l : List (Int × ByteArray)}
theorem drow_made (w : World) {N : Nat} (hN : N ≤ w.heap.size) : DRow (w.alloc (.cells #[] 80)) N (.slice (some ⟨w.heap.size, 0, none⟩) 0 0) [] :=
  ⟨World.ownsRow_made w #[] 0 hN (Nat.zero_le _) rfl⟩
theorem run_append_rd (w : World) (N : Nat) (ty : TypeId) (v : Value) (A C : List (Int × ByteArray)) (h : DRow w N v A) (ad : Addr) (m c : Nat) (hC : C.length = m) (hm : ∀ j u, (C.flatMap rdC)[j]? = some u → w.cell? (ad.add j) = some u) (hlen : A.length + m ≤ 20000) (hN : N ≤ w.heap.size) :
    ∃ v' w', (Builtin.append_ #[32, 32] ty #[v, .slice (some ad) m c]).run Tryz.prog w = .ok v' w' ∧ DRow w' N v' (A ++ C) ∧ Fr (fun k => v.ownBlock = some k) w w' ∧ ∀ k, v'.ownBlock = some k → v.ownBlock = some k ∨ w.heap.size ≤ k := by
  subst hC
  obtain ⟨i0, hi, hz0, hz1, hz2⟩ := info_parts info_ref9
  obtain ⟨v', w', hr, h2, h3, h4⟩ := run_append_own2 (P := Tryz.prog) w N 32 ty 80 i0 _ 2 24 Tryz.underlying32 hi hz0 hz1 hz2 rfl (by decide) v A.length (A.flatMap rdC) h.own ad C.length c (C.flatMap rdC) (flat_len' rdC_len C) hm (by intro u hu; obtain ⟨y, _, hy⟩ := List.mem_flatMap.1 hu; exact rdC_one y u hy) (by unfold maxLen; omega) (by omega) hN
  refine ⟨v', w', hr, ⟨?_⟩, Fr.of_grown h3, h4⟩
  rw [List.length_append, List.flatMap_append]
  exact h2
theorem step_append_rd {ops : Array Oper} {o : Oper} {ac : Act} {w : World} {K : Act → World → Prop} {Q : Exit → Act → World → Prop} {E : Prop} (hgd : o.guard = none) (s x : Operand)
    (ho : o.op = .call { callee := .builtin .append, args := #[s, x], argTypes := #[32, 32] })
    (N : Nat) (v : Value) (A C : List (Int × ByteArray)) (hs : ac.eval s = v) (hrow : DRow w N v A) (ad : Addr) (m c : Nat) (hC : C.length = m) (hx : ac.eval x = .slice (some ad) m c) (hm : ∀ j u, (C.flatMap rdC)[j]? = some u → w.cell? (ad.add j) = some u) (hlen : A.length + m ≤ 20000) (hN : N ≤ w.heap.size)
    (h : ∀ v' w', DRow w' N v' (A ++ C) → Fr (fun k => v.ownBlock = some k) w w' → (∀ k, v'.ownBlock = some k → v.ownBlock = some k ∨ w.heap.size ≤ k) → K (ac.put o.dst v') w') :
    if Region.wanted o (yielded ops ac.tmps) = true then Oper.wp Tryz.prog o ac w K Q else E := by
  have hw : Region.wanted o (yielded ops ac.tmps) = true := by simp [Region.wanted, hgd]
  rw [if_pos hw]
  obtain ⟨v', w', hr, h2, h3, h4⟩ := run_append_rd w N o.type v A C hrow ad m c hC hm hlen hN
  unfold Oper.wp execOp
  simp only [ho, resolve, invoke, builtin, Sem.run_bind, Sem.run_pure, Result.andThen_ok, List.map_toArray, List.map_cons, List.map_nil, hs, hx, hr]
  exact h v' w' h2 h3 h4

theorem flat_drop' (l : List (Int × ByteArray)) (k : Nat) (hk : k ≤ l.length) : (l.flatMap rdC).drop (k * 2) = (l.drop k).flatMap rdC := by
  have h := List.take_append_drop (k * 2) (l.flatMap rdC)
  rw [flat_take' rdC_len l k hk] at h
  have e : l.flatMap rdC = (l.take k).flatMap rdC ++ (l.drop k).flatMap rdC := by rw [← List.flatMap_append, List.take_append_drop]
  exact List.append_cancel_left (h.trans e)

/-- What is known of a row's parts: the first i, and those from m on. -/
structure Cut9 (w : World) (q : Nat) (l : List (Int × ByteArray)) (i m n ra rc : Nat) (ad : Addr) : Prop where
  hi : i ≤ m
  hm : m ≤ n
  hn : l.length = n
  hrc : n ≤ rc
  had : (if rc = m then some (⟨ra, 0, none⟩ : Addr) else some ⟨ra, m * 2, none⟩) = some ad
  s1 : ∀ w', Below w.heap.size w w' → ∀ j u, ((l.take i).flatMap rdC)[j]? = some u → w'.cell? ((⟨ra, 0, none⟩ : Addr).add j) = some u
  s2 : ∀ w', Below w.heap.size w w' → ∀ j u, ((l.drop m).flatMap rdC)[j]? = some u → w'.cell? (ad.add j) = some u
  ce : ∀ w', Below w.heap.size w w' → w'.cell? ⟨q, 0, none⟩ = some (.slice (some ⟨ra, 0, none⟩) n rc)
  l1 : (l.take i).length = i
  l2 : (l.drop m).length = n - m

theorem Rd.cut (h : Rd B w q v l) {ra rc : Nat} (e : v = .slice (some ⟨ra, 0, none⟩) l.length rc) (hc : l.length ≤ rc) {i m : Nat} (him : i ≤ m) (hm : m ≤ l.length) : ∃ ad, Cut9 w q l i m l.length ra rc ad := by
  have hown := h.row.own
  rw [e] at hown
  have hblk := (h.row.blk (k := ra) (by rw [e]; rfl)).2
  have hq := lt_of_some h.top
  have at1 : ∀ w', Below w.heap.size w w' → ∀ j u, ((l.take i).flatMap rdC)[j]? = some u → w'.cell? ((⟨ra, 0, none⟩ : Addr).add j) = some u := fun w' hb j u hu => by
    have hj := (List.getElem?_eq_some_iff.1 hu).1
    rw [flat_len' rdC_len, List.length_take] at hj
    rw [← flat_take' rdC_len l i (by omega), List.getElem?_take, if_pos (by omega)] at hu
    have hcl := hown.cellAt j (by omega)
    rw [hu] at hcl
    rw [Addr.add_lit, Nat.zero_add]
    exact (hb.cell (p := ⟨ra, j, none⟩) hblk).trans hcl
  have ce : ∀ w', Below w.heap.size w w' → w'.cell? ⟨q, 0, none⟩ = some (.slice (some ⟨ra, 0, none⟩) l.length rc) := fun w' hb => by
    have := (hb.cell (p := ⟨q, 0, none⟩) hq).trans (cell_in h.top 0 _ rfl)
    rw [this, e]; rfl
  by_cases hr : rc = m
  · exact ⟨⟨ra, 0, none⟩, him, hm, rfl, hc, by rw [if_pos hr], at1, fun w' hb j u hu => by rw [List.drop_of_length_le (by omega)] at hu; simp at hu, ce, by rw [List.length_take]; omega, List.length_drop⟩
  · refine ⟨⟨ra, m * 2, none⟩, him, hm, rfl, hc, by rw [if_neg hr], at1, fun w' hb j u hu => ?_, ce, by rw [List.length_take]; omega, List.length_drop⟩
    have hj := (List.getElem?_eq_some_iff.1 hu).1
    rw [flat_len' rdC_len, List.length_drop] at hj
    rw [← flat_drop' l m hm, List.getElem?_drop] at hu
    have hcl := hown.cellAt (m * 2 + j) (by omega)
    rw [hu] at hcl
    rw [Addr.add_lit]
    exact (hb.cell (p := ⟨ra, m * 2 + j, none⟩) hblk).trans hcl

theorem Fr.weak9 {F F' : Nat → Prop} (h : Fr F w w') (hF : ∀ i, F i → F' i) : Fr F' w w' := ⟨h.os, h.tape, h.output, h.size, fun k hk q => h.block k hk (fun z => q (hF k z))⟩
/-- What a call has made of the document's rows. -/
structure RdTo (B : Nat) (w w' : World) (q : Nat) (v : Value) (l' : List (Int × ByteArray)) : Prop where
  ex : ∃ v', Rd B w' q v' l' ∧ Fr (fun k => k = q ∨ v.ownBlock = some k) w w' ∧ ∀ k, v'.ownBlock = some k → v.ownBlock = some k ∨ w.heap.size ≤ k
/-- Another row is laid. -/
theorem Rd.laid (h : Rd B w q v l) (hb : Below w.heap.size w w') {N : Nat} {v' : Value} {l' : List (Int × ByteArray)} (hr : DRow w' N v' l') (hN : w.heap.size ≤ N) (hB : B ≤ w.heap.size) :
    w'.cell? ⟨q, 0, none⟩ = some v ∧ w'.frozen? ⟨q, 0, none⟩ = false ∧ RdTo B w (w'.setCell ⟨q, 0, none⟩ v') q v l' := by
  have h1 := h.below hb
  have hq := lt_of_some h.top
  have f := fr_set w' q 0 v'
  refine ⟨cell_in h1.top 0 _ rfl, free_in h1.top 0, ⟨v', ⟨heap_setCell_same w' q 0 #[v] _ v' h1.top, ?_, h.qB⟩, ?_, fun k e => Or.inr (Nat.le_trans hN (hr.blk e).1)⟩⟩
  · have hk := hr.mono (B' := B) (by omega)
    exact hk.kept (fun k e => f.block k (hr.blk e).2 (fun z => by have := (hr.blk e).1; omega))
  · exact (Fr.of_below hb).trans f (fun i _ e => Or.inl e)
end
end Go.Proofs.YtkjioabhdglkpaaGreat
end

section
namespace Go.Proofs.YtkjioabhdglkpaaGreat
open Go.RowKit

section
variable {B : Nat} {w w' : World} {q : Nat} {v : Value} {l : List (Int × ByteArray)}
set_option maxHeartbeats 6400000 in
set_option maxRecDepth 100000 in
theorem rddel_yes (h : Rd B w q v l) (hB : B ≤ w.heap.size) (hlen : l.length ≤ 5000) {i : Nat} {t : ByteArray} {id : Int} (hn : (l.map Prod.fst).Nodup) (hi : l[i]? = some (id, t)) :
    Calls Tryz.prog 16 #[.pointer (some ⟨q, 0, none⟩), .int .i64 id] w fun e w' => e = .returned (.int .i64 0) ∧ RdTo B w w' q v (l.eraseIdx i) := by
  have cF := rdfind_any h (by omega) id
  have hlt : i < l.length := (List.getElem?_eq_some_iff.1 hi).1
  obtain ⟨ra, rc, e, hc⟩ : ∃ ra rc, v = .slice (some ⟨ra, 0, none⟩) l.length rc ∧ l.length ≤ rc := by
    obtain ⟨b, c, e, hc, _⟩ := h.row.cell rdC_len hi
    exact ⟨b, c, e, hc⟩
  obtain ⟨ad, hcut⟩ := h.cut e hc (i := i) (m := i + 1) (by omega) (by omega)
  have HR := (show Hid _ from h)
  have HI := (show Hid _ from hi)
  have HZ : Hid (l.eraseIdx i = l.take i ++ l.drop (i + 1)) := List.eraseIdx_eq_take_drop_succ l i
  have HV := (show Hid _ from e)
  have HL : Hid (l.length ≤ 5000) := hlen
  have hwm : IntKind.i64.wrap ((i : Int) + 1) = ((i + 1 : Nat) : Int) := by rw [IntKind.wrap_i64]; omega
  go_enter Tryz.func16, Tryz.ntmps16
  go_wp2_with fail
  refine cF.mono ?_
  rintro e1 w1 ⟨X, rfl, hw, ⟨hX⟩⟩
  rw [hw]
  clear hw cF
  obtain rfl : X = (i : Int) := by
    rcases hX with ⟨_, hno⟩ | ⟨k, t', rfl, hx⟩
    · exact absurd rfl (hno _ (List.mem_of_getElem? HI.out))
    · have h1 : (l.map Prod.fst)[k]? = some id := by rw [List.getElem?_map, hx]; rfl
      have h2 : (l.map Prod.fst)[i]? = some id := by rw [List.getElem?_map, HI.out]; rfl
      obtain ⟨l1, e1⟩ := List.getElem?_eq_some_iff.1 h1
      obtain ⟨l2, e2⟩ := List.getElem?_eq_some_iff.1 h2
      have := (List.getElem_inj hn).1 (e1.trans e2.symm)
      rw [this]
  clear hX
  go_wp2_with fail
  generalize hW : w = W1 at *
  generalize hnn : l.length = n at *
  have C : Hid (Cut9 W1 q l i (i + 1) n ra rc ad) := hcut
  obtain ⟨m, hm⟩ : ∃ m, i + 1 = m := ⟨_, rfl⟩
  rw [hm] at C HZ hwm
  have HBw : Hid (B ≤ W1.heap.size) := hB
  have CE : Hid (∀ W, Below W1.heap.size W1 W → W.cell? ⟨q, 0, none⟩ = some (.slice (some ⟨ra, 0, none⟩) n rc)) := C.out.ce
  have him : (i : Int) + 1 = (m : Int) := by omega
  have hmb : (m : Int) ≤ 5001 := by omega
  have hwm2 : IntKind.i64.wrap (m : Int) = (m : Int) := by rw [IntKind.wrap_i64]; omega
  have HWe := (show Hid _ from hW)
  clear h hi hcut hB hn hc hnn hW hlen hlt
  have hA := C.out.had
  have hin := C.out.hi
  have hmn : (m : Int) ≤ (n : Int) := by have := C.out.hm; omega
  have hmr : (m : Int) ≤ (rc : Int) := by have := C.out.hm; have := C.out.hrc; omega
  have hirc : (i : Int) ≤ (rc : Int) := by have := C.out.hm; have := C.out.hi; have := C.out.hrc; omega
  have hinn : (i : Int) ≤ (n : Int) := by have := C.out.hm; have := C.out.hi; omega
  have hnrc : (n : Int) ≤ (rc : Int) := by have := C.out.hrc; omega
  obtain ⟨N, hN⟩ : ∃ N, W1.heap.size = N := ⟨_, rfl⟩
  have HN : Hid (N ≤ W1.heap.size) := Nat.le_of_eq hN.symm
  have HNe : Hid (W1.heap.size = N) := hN
  clear hN
  refine anyL_begin (S := fun W => Below W1.heap.size W1 W) (n := 19) (by kernel_rfl) (below_drew W1) (fun hHeld => ?_)
  refine takeL 0 11 (v := .pointer (some ⟨q, 0, none⟩)) rfl rfl (by kernel_rfl) (by kernel_rfl) (by kernel_rfl) (by kernel_rfl) (fun _ _ _ h => h) (Or.inl ⟨by rfl, by (intro W hSw; have s2 := CE.out W hSw; go_simp)⟩) hHeld ?_
  (try simp only [List.setIfInBounds_toArray, List.set_cons_zero, List.set_cons_succ])
  refine takeL 2 13 (v := .pointer (some ⟨q, 0, none⟩)) rfl rfl (by kernel_rfl) (by kernel_rfl) (by kernel_rfl) (by kernel_rfl) (fun _ _ _ h => h) (Or.inl ⟨by rfl, by (intro W hSw; have s2 := CE.out W hSw; go_simp)⟩) hHeld ?_
  (try simp only [List.setIfInBounds_toArray, List.set_cons_zero, List.set_cons_succ])
  refine takeL 3 14 (v := .pointer (some ⟨q, 0, none⟩)) rfl rfl (by kernel_rfl) (by kernel_rfl) (by kernel_rfl) (by kernel_rfl) (fun _ _ _ h => h) (Or.inl ⟨by rfl, by (intro W hSw; have s2 := CE.out W hSw; go_simp)⟩) hHeld ?_
  (try simp only [List.setIfInBounds_toArray, List.set_cons_zero, List.set_cons_succ])
  refine takeL 4 15 (v := .pointer (some ⟨q, 0, none⟩)) rfl rfl (by kernel_rfl) (by kernel_rfl) (by kernel_rfl) (by kernel_rfl) (fun _ _ _ h => h) (Or.inl ⟨by rfl, by (intro W hSw; have s2 := CE.out W hSw; go_simp)⟩) hHeld ?_
  (try simp only [List.setIfInBounds_toArray, List.set_cons_zero, List.set_cons_succ])
  refine takeL 5 16 (v := .slice (some ⟨ra, 0, none⟩) n rc) rfl rfl (by kernel_rfl) (by kernel_rfl) (by kernel_rfl) (by kernel_rfl) (fun _ _ _ h => h) (Or.inl ⟨by rfl, by (intro W hSw; have s2 := CE.out W hSw; go_simp)⟩) hHeld ?_
  (try simp only [List.setIfInBounds_toArray, List.set_cons_zero, List.set_cons_succ])
  refine takeL 6 17 (v := .int .i64 (i : Int)) rfl rfl (by kernel_rfl) (by kernel_rfl) (by kernel_rfl) (by kernel_rfl) (fun _ _ _ h => h) (Or.inl ⟨by rfl, by (intro W hSw; have s2 := CE.out W hSw; go_simp)⟩) hHeld ?_
  (try simp only [List.setIfInBounds_toArray, List.set_cons_zero, List.set_cons_succ])
  refine takeL 7 18 (v := .slice (some ⟨ra, 0, none⟩) i rc) rfl rfl (by kernel_rfl) (by kernel_rfl) (by kernel_rfl) (by kernel_rfl) (fun _ _ _ h => h) (Or.inl ⟨by rfl, by (intro W hSw; have s2 := CE.out W hSw; go_simp)⟩) hHeld ?_
  (try simp only [List.setIfInBounds_toArray, List.set_cons_zero, List.set_cons_succ])
  refine takeL 9 20 (v := .pointer (some ⟨q, 0, none⟩)) rfl rfl (by kernel_rfl) (by kernel_rfl) (by kernel_rfl) (by kernel_rfl) (fun _ _ _ h => h) (Or.inl ⟨by rfl, by (intro W hSw; have s2 := CE.out W hSw; go_simp)⟩) hHeld ?_
  (try simp only [List.setIfInBounds_toArray, List.set_cons_zero, List.set_cons_succ])
  refine takeL 10 21 (v := .pointer (some ⟨q, 0, none⟩)) rfl rfl (by kernel_rfl) (by kernel_rfl) (by kernel_rfl) (by kernel_rfl) (fun _ _ _ h => h) (Or.inl ⟨by rfl, by (intro W hSw; have s2 := CE.out W hSw; go_simp)⟩) hHeld ?_
  (try simp only [List.setIfInBounds_toArray, List.set_cons_zero, List.set_cons_succ])
  refine takeL 11 22 (v := .pointer (some ⟨q, 0, none⟩)) rfl rfl (by kernel_rfl) (by kernel_rfl) (by kernel_rfl) (by kernel_rfl) (fun _ _ _ h => h) (Or.inl ⟨by rfl, by (intro W hSw; have s2 := CE.out W hSw; go_simp)⟩) hHeld ?_
  (try simp only [List.setIfInBounds_toArray, List.set_cons_zero, List.set_cons_succ])
  refine takeL 12 23 (v := .slice (some ⟨ra, 0, none⟩) n rc) rfl rfl (by kernel_rfl) (by kernel_rfl) (by kernel_rfl) (by kernel_rfl) (fun _ _ _ h => h) (Or.inl ⟨by rfl, by (intro W hSw; have s2 := CE.out W hSw; go_simp)⟩) hHeld ?_
  (try simp only [List.setIfInBounds_toArray, List.set_cons_zero, List.set_cons_succ])
  refine takeL 13 24 (v := .int .i64 (i : Int)) rfl rfl (by kernel_rfl) (by kernel_rfl) (by kernel_rfl) (by kernel_rfl) (fun _ _ _ h => h) (Or.inl ⟨by rfl, by (intro W hSw; have s2 := CE.out W hSw; go_simp)⟩) hHeld ?_
  (try simp only [List.setIfInBounds_toArray, List.set_cons_zero, List.set_cons_succ])
  refine takeL 14 25 (v := .int .i64 (m : Int)) rfl rfl (by kernel_rfl) (by kernel_rfl) (by kernel_rfl) (by kernel_rfl) (fun _ _ _ h => h) (Or.inl ⟨by rfl, by (intro W hSw; have s2 := CE.out W hSw; go_simp)⟩) hHeld ?_
  (try simp only [List.setIfInBounds_toArray, List.set_cons_zero, List.set_cons_succ])
  refine takeL 15 26 (v := .slice (some ad) (n - m) (rc - m)) rfl rfl (by kernel_rfl) (by kernel_rfl) (by kernel_rfl) (by kernel_rfl) (fun _ _ _ h => h) (Or.inl ⟨by rfl, by (intro W hSw; have s2 := CE.out W hSw; go_simp)⟩) hHeld ?_
  (try simp only [List.setIfInBounds_toArray, List.set_cons_zero, List.set_cons_succ])
  refine anyL_one 1 (by kernel_rfl) (upL rfl (fun K hK => ?_))
  go_simp
  have row1 := drow_made _ (N := N) (Nat.le_trans HN.out hHeld.size)
  have hb1 := below2 hHeld (below_alloc1 _ (.cells #[] 80))
  refine hK.out _ _ (fun _ => hb1) (fun hHeld0 => ?_)
  have hHeld := hHeld0 (by decide)
  clear hHeld0 hK K
  (try simp only [Act.put, List.setIfInBounds_toArray, List.set_cons_zero, List.set_cons_succ])
  refine anyL_one 8 (by kernel_rfl) (upL rfl (fun K hK => ?_))
  refine step_append_rd rfl (.tmp 12) (.tmp 18) rfl N _ _ (l.take i) (by first | rfl | simp [Act.eval]) row1 ⟨ra, 0, none⟩ i rc C.out.l1 (by first | rfl | simp [Act.eval]) (C.out.s1 _ hHeld) (by have := C.out.hi; have := C.out.hm; have := HL.out; have := C.out.hn; simp; omega) (Nat.le_trans HN.out hHeld.size) ?_
  intro v2 w2 row2 fr2 new2
  have hb2 := fr2.below hHeld hHeld.size (fun k e => Nat.le_trans (Nat.le_of_eq HNe.out) (row1.blk e).1)
  refine hK.out _ _ (fun _ => hb2) (fun hHeld0 => ?_)
  have hHeld := hHeld0 (by decide)
  clear hHeld0 hK K
  (try simp only [Act.put, List.setIfInBounds_toArray])
  refine anyL_one 16 (by kernel_rfl) (upL rfl (fun K hK => ?_))
  refine step_append_rd rfl (.tmp 19) (.tmp 26) rfl N _ _ (l.drop m) (by first | rfl | simp [Act.eval]) row2 ad (n - m) (rc - m) C.out.l2 (by first | rfl | simp [Act.eval]) (C.out.s2 _ hHeld) (by have := C.out.hi; have := C.out.hm; have := HL.out; have := C.out.hn; have := C.out.l1; simp; omega) (Nat.le_trans HN.out hHeld.size) ?_
  intro v3 w3 row3 fr3 new3
  have hb3 := fr3.below hHeld hHeld.size (fun k e => Nat.le_trans (Nat.le_of_eq HNe.out) (row2.blk e).1)
  refine hK.out _ _ (fun _ => hb3) (fun hHeld0 => ?_)
  have hHeld := hHeld0 (by decide)
  clear hHeld0 hK K
  (try simp only [Act.put])
  refine anyL_one 17 (by kernel_rfl) (upL rfl (fun K hK => ?_))
  go_simp
  refine hK.out _ _ (fun _ => hHeld) (fun hHeld0 => ?_)
  have hHeld := hHeld0 (by decide)
  clear hHeld0 hK K
  (try simp only [Act.put, List.setIfInBounds_toArray, List.set_cons_zero, List.set_cons_succ])
  refine anyL_one 18 (by kernel_rfl) (upL rfl (fun K hK => ?_))
  go_simp
  refine hK.out _ _ (fun _ => hHeld) (fun hHeld0 => ?_)
  have hHeld := hHeld0 (by decide)
  clear hHeld0 hK K
  (try simp only [Act.put, List.setIfInBounds_toArray, List.set_cons_zero, List.set_cons_succ])
  rw [List.nil_append] at row3
  obtain ⟨za, zc, rfl, _, _⟩ := row3.len
  generalize hzn : (l.take i ++ l.drop m).length = zn at row3 ⊢
  clear hzn
  obtain ⟨cz, fz, tz⟩ := HR.out.laid hHeld row3 (Nat.le_of_eq HNe.out) HBw.out
  have TZ := (show Hid _ from tz)
  clear tz
  refine anyL_one 19 (by kernel_rfl) (upL rfl (fun K hK => ?_))
  go_simp
  refine hK.out _ _ (fun q => absurd rfl q) (fun _ => ?_)
  clear hK K
  (try simp only [Act.put, List.setIfInBounds_toArray, List.set_cons_zero, List.set_cons_succ])
  refine anyL_done (by kernel_rfl) ?_ _
  go_wp2_with fail
  go_ret
  exact ⟨rfl, by rw [HZ.out, HWe.out]; exact TZ.out⟩
set_option maxHeartbeats 800000 in
set_option maxRecDepth 100000 in
theorem rddel_no (h : Rd B w q v l) (hlen : l.length ≤ 5000) {id : Int} (hi : ∀ y ∈ l, y.1 ≠ id) :
    Calls Tryz.prog 16 #[.pointer (some ⟨q, 0, none⟩), .int .i64 id] w fun e w' => e = .returned (.int .i64 60) ∧ w' = w := by
  have cF := rdfind_any h (by omega) id
  clear h
  go_enter Tryz.func16, Tryz.ntmps16
  go_wp2_with fail
  refine cF.mono ?_
  rintro e w1 ⟨X, rfl, hw, ⟨hX⟩⟩
  rw [hw]
  clear hw cF
  rcases hX with ⟨rfl, _⟩ | ⟨k, t', rfl, hx⟩
  · go_wp2_with fail
    go_ret
    exact ⟨rfl, rfl⟩
  · exact absurd rfl (hi _ (List.mem_of_getElem? hx))
end
end Go.Proofs.YtkjioabhdglkpaaGreat
end

section
namespace Go.Proofs.YtkjioabhdglkpaaGreat
open Go.RowKit

section
variable {B : Nat} {w w' : World} {q : Nat} {v : Value} {l : List (Int × ByteArray)}
theorem DRow.put {b c : Nat} (h : DRow w B (.slice (some ⟨b, 0, none⟩) l.length c) l) (k : Nat) (id : Int) (t t' : ByteArray) (hk : l[k]? = some (id, t)) : DRow (w.setCell ⟨b, k * 2 + 1, none⟩ (.string t')) B (.slice (some ⟨b, 0, none⟩) l.length c) (l.set k (id, t')) := by
  have h1 := own_set h.own (k * 2 + 1) (.string t')
  refine ⟨?_⟩
  rw [List.length_set]
  have e : (l.flatMap rdC).set (k * 2 + 1) (.string t') = (l.set k (id, t')).flatMap rdC := by
    clear h h1
    induction l generalizing k with
    | nil => simp at hk
    | cons y l ih =>
      cases k with
      | zero =>
        simp at hk
        subst hk
        simp [rdC]
      | succ k =>
        have h := ih k (by simpa using hk)
        have e1 : (y :: l).flatMap rdC = .int .i64 y.1 :: .string y.2 :: l.flatMap rdC := rfl
        have e2 : ((y :: l).set (k + 1) (id, t')).flatMap rdC = .int .i64 y.1 :: .string y.2 :: (l.set k (id, t')).flatMap rdC := rfl
        rw [e1, e2, ← h, show (k + 1) * 2 + 1 = (k * 2 + 1) + 1 + 1 by omega]
        simp only [List.set_cons_succ]
  rw [e] at h1
  exact h1

set_option maxHeartbeats 800000 in
theorem rdput_arg (q : Nat) (i : Int) (text : ByteArray) (w : World) (hi : i < 1 ∨ 4611686018427387903 < i) : Calls Tryz.prog 14 #[.pointer (some ⟨q, 0, none⟩), .int .i64 i, .string text] w fun e w' => e = .returned (.int .i64 1) ∧ w' = w := by
  by_cases h1 : i < 1
  · have d1 : decide (i < 1) = true := by simpa using h1
    clear hi
    go_enter Tryz.func14, Tryz.ntmps14
    go_wp2_with fail
    all_goals go_ret
    all_goals exact ⟨rfl, rfl⟩
  · have d1 : decide (i < 1) = false := by simpa using h1
    have d2 : decide (4611686018427387903 < i) = true := by simp; omega
    clear hi
    go_enter Tryz.func14, Tryz.ntmps14
    go_wp2_with fail
    all_goals go_ret
    all_goals exact ⟨rfl, rfl⟩
set_option maxHeartbeats 800000 in
theorem rdput_long (q : Nat) (i : Int) (text : ByteArray) (w : World) (h1 : 1 ≤ i) (h2 : i ≤ 4611686018427387903) (h3 : 4000 < text.size) : Calls Tryz.prog 14 #[.pointer (some ⟨q, 0, none⟩), .int .i64 i, .string text] w fun e w' => e = .returned (.int .i64 2) ∧ w' = w := by
  have d1 : decide (i < 1) = false := by simp; omega
  have d2 : decide (4611686018427387903 < i) = false := by simp; omega
  have d3 : decide ((4000 : Int) < (text.size : Int)) = true := by simp; omega
  clear h1 h2
  go_enter Tryz.func14, Tryz.ntmps14
  go_wp2_with fail
  all_goals go_ret
  all_goals exact ⟨rfl, rfl⟩

set_option maxHeartbeats 1600000 in
set_option maxRecDepth 100000 in
theorem rdput_old (h : Rd B w q v l) (hlen : l.length ≤ 4000) {i : Nat} {t text : ByteArray} {id : Int} (h1 : 1 ≤ id) (h2 : id ≤ 4611686018427387903) (h3 : text.size ≤ 4000) (hn : (l.map Prod.fst).Nodup) (hi : l[i]? = some (id, t)) :
    Calls Tryz.prog 14 #[.pointer (some ⟨q, 0, none⟩), .int .i64 id, .string text] w fun e w' => e = .returned (.int .i64 0) ∧ RdTo B w w' q v (l.set i (id, text)) := by
  have cF := rdfind_any h (by omega) id
  have hlt : i < l.length := (List.getElem?_eq_some_iff.1 hi).1
  have d1 : decide (id < 1) = false := by simp; omega
  have d2 : decide (4611686018427387903 < id) = false := by simp; omega
  have d3 : decide ((4000 : Int) < (text.size : Int)) = false := by simp; omega
  obtain ⟨b, c, e, hc, _, hbl, s0⟩ := h.row.cell rdC_len hi
  subst e
  have r1 := s0 1 _ rfl
  have c0 := cell_in h.top 0 _ rfl
  have z1 : w.frozen? ⟨b, i * 2 + 1, none⟩ = false := by
    rcases h.row.own.2 with ⟨e, _⟩ | ⟨g, cap, cur, e, _, hq, _⟩
    · cases e
    · have eg : b = g := by simpa [Value.ownBlock] using congrArg Value.ownBlock e
      rw [← eg] at hq
      exact free_in hq _
  have f := fr_set w b (i * 2 + 1) (.string text)
  have hbq : b ≠ q := fun z => h.ne (by rw [z]; rfl)
  have HT : Hid (RdTo B w (w.setCell ⟨b, i * 2 + 1, none⟩ (.string text)) q (.slice (some ⟨b, 0, none⟩) l.length c) (l.set i (id, text))) :=
    ⟨_, ⟨(f.block q (lt_of_some h.top) (Ne.symm hbq)).trans h.top, h.row.put i id t text hi, h.qB⟩, f.weak9 (fun j e => Or.inr (by rw [e]; rfl)), fun k e => Or.inl e⟩
  have HI := (show Hid _ from hi)
  have hlt2 : (i : Int) < (l.length : Int) := by omega
  have hil : (i : Int) ≤ 4000 := by omega
  clear h hi s0 f h1 h2 h3
  go_enter Tryz.func14, Tryz.ntmps14
  go_wp2_with fail
  refine cF.mono ?_
  rintro e1 w1 ⟨X, rfl, hw, ⟨hX⟩⟩
  rw [hw]
  clear hw cF
  obtain rfl : X = (i : Int) := by
    rcases hX with ⟨_, hno⟩ | ⟨k, t', rfl, hx⟩
    · exact absurd rfl (hno _ (List.mem_of_getElem? HI.out))
    · have h1 : (l.map Prod.fst)[k]? = some id := by rw [List.getElem?_map, hx]; rfl
      have h2 : (l.map Prod.fst)[i]? = some id := by rw [List.getElem?_map, HI.out]; rfl
      obtain ⟨l1, e1⟩ := List.getElem?_eq_some_iff.1 h1
      obtain ⟨l2, e2⟩ := List.getElem?_eq_some_iff.1 h2
      have := (List.getElem_inj hn).1 (e1.trans e2.symm)
      rw [this]
  clear hX hn
  go_wp2_with fail
  go_ret
  exact ⟨rfl, HT.out⟩
end
end Go.Proofs.YtkjioabhdglkpaaGreat
end

section
namespace Go.Proofs.YtkjioabhdglkpaaGreat
open Go.RowKit

section
variable {B : Nat} {w w' : World} {q : Nat} {v : Value} {l : List (Int × ByteArray)}
structure HB9 (W : World) (b : Nat) (r : Int × ByteArray) (v : Value) : Prop where
  row : W.heap[b]? = some (.cells #[.int .i64 r.1, .string r.2] 80)
  ne : v.ownBlock ≠ some b
theorem HB9.of (W : World) (r : Int × ByteArray) (v : Value) (h : ∀ k, v.ownBlock = some k → k < W.heap.size) : HB9 (W.alloc (.cells #[.int .i64 r.1, .string r.2] 80)) W.heap.size r v := ⟨heap_alloc_new _ _, fun e => by have := h _ e; omega⟩
theorem HB9.app {W W' : World} {b : Nat} {r : Int × ByteArray} {v v' : Value} (h : HB9 W b r v) (f : Fr (fun k => v.ownBlock = some k) W W') (hn : ∀ k, v'.ownBlock = some k → v.ownBlock = some k ∨ W.heap.size ≤ k) : HB9 W' b r v' :=
  ⟨(f.block b (lt_of_some h.row) h.ne).trans h.row, fun e => (hn b e).elim h.ne (fun z => by have := lt_of_some h.row; omega)⟩
theorem HB9.made {W : World} {b : Nat} {r : Int × ByteArray} {v : Value} (h : HB9 W b r v) : HB9 (W.alloc (.cells #[] 80)) b r (.slice (some ⟨W.heap.size, 0, none⟩) 0 0) :=
  ⟨(Below.heap_alloc _ _ _ (lt_of_some h.row)).trans h.row, fun e => by
    have hl := lt_of_some h.row
    have : W.heap.size = b := by simpa [Value.ownBlock] using e
    omega⟩
theorem HB9.src {W : World} {b : Nat} {r : Int × ByteArray} {v : Value} (h : HB9 W b r v) : ∀ j u, ([r].flatMap rdC)[j]? = some u → W.cell? ((⟨b, 0, none⟩ : Addr).add j) = some u := by
  intro j u hu
  rw [Addr.add_lit]
  match j, hu with
  | 0, hu =>
    have : Value.int .i64 r.1 = u := by simpa [rdC] using hu
    rw [← this]
    exact cell_in h.row 0 _ rfl
  | 1, hu =>
    have : Value.string r.2 = u := by simpa [rdC] using hu
    rw [← this]
    exact cell_in h.row 1 _ rfl
  | j + 2, hu => simp [rdC] at hu
theorem step_append_rd_none {ops : Array Oper} {o : Oper} {ac : Act} {w : World} {K : Act → World → Prop} {Q : Exit → Act → World → Prop} {E : Prop} (hgd : o.guard = none) (s x : Operand)
    (ho : o.op = .call { callee := .builtin .append, args := #[s, x], argTypes := #[32, 32] })
    (N : Nat) (v : Value) (A : List (Int × ByteArray)) (hs : ac.eval s = v) (hrow : DRow w N v A) (hx : ac.eval x = .slice none 0 0) (h : K (ac.put o.dst v) w) :
    if Region.wanted o (yielded ops ac.tmps) = true then Oper.wp Tryz.prog o ac w K Q else E := by
  have hw : Region.wanted o (yielded ops ac.tmps) = true := by simp [Region.wanted, hgd]
  rw [if_pos hw]
  obtain ⟨i0, hi, hz0, hz1, hz2⟩ := info_parts info_ref9
  have hr := run_append_owned_none (P := Tryz.prog) (w := w) N 32 o.type 80 i0 2 Tryz.underlying32 hi v A.length (A.flatMap rdC) hrow.own
  unfold Oper.wp
  simp [execOp, ho, resolve, invoke, builtin, hs, hx, hr, Result.andThen]
  exact h

set_option maxHeartbeats 12800000 in
set_option maxRecDepth 100000 in
theorem rdput_nil9 (h : Rd B w q (.slice none 0 0) []) (hB : B ≤ w.heap.size) {text : ByteArray} {id : Int} (h1 : 1 ≤ id) (h2 : id ≤ 4611686018427387903) (h3 : text.size ≤ 4000) :
    Calls Tryz.prog 14 #[.pointer (some ⟨q, 0, none⟩), .int .i64 id, .string text] w fun e w' => e = .returned (.int .i64 0) ∧ RdTo B w w' q (.slice none 0 0) [(id, text)] := by
  have cF := rdfind_any h (by simp) id
  have d1 : decide (id < 1) = false := by simp; omega
  have d2 : decide (4611686018427387903 < id) = false := by simp; omega
  have d3 : decide ((4000 : Int) < (text.size : Int)) = false := by simp; omega
  have c0 := cell_in h.top 0 _ rfl
  have HR := (show Hid _ from h)
  clear h1 h2 h3
  go_enter Tryz.func14, Tryz.ntmps14
  go_wp2_with fail
  refine cF.mono ?_
  rintro e1 w1 ⟨X, rfl, hw, ⟨hX⟩⟩
  rw [hw]
  clear hw cF
  obtain rfl : X = -1 := by
    rcases hX with ⟨e, _⟩ | ⟨k, t', _, hx⟩
    · exact e
    · simp at hx
  clear hX
  go_wp2_with fail
  refine wp_loop_rounds 1 ?_
  rw [rounds_succ]
  go_wp2_with fail
  generalize hW : w = W1 at *
  have fin9 : Hid (∀ w' : World, RdTo B W1 w' q (.slice none 0 0) ([] ++ [(id, text)]) → RdTo B W1 w' q (.slice none 0 0) [(id, text)]) := fun _ h => h
  have HBw : Hid (B ≤ W1.heap.size) := hB
  have CE0 : Hid (∀ W, Below W1.heap.size W1 W → W.cell? ⟨q, 0, none⟩ = some (.slice none 0 0)) := fun W hb => (hb.cell (p := ⟨q, 0, none⟩) (lt_of_some h.top)).trans c0
  obtain ⟨N, hN⟩ : ∃ N, W1.heap.size = N := ⟨_, rfl⟩
  have HN : Hid (N ≤ W1.heap.size) := Nat.le_of_eq hN.symm
  have HNe : Hid (W1.heap.size = N) := hN
  have CE := CE0
  clear hN h c0 hB
  refine anyL_begin (S := fun W => Below W1.heap.size W1 W) (n := 23) (by kernel_rfl) (below_drew W1) (fun hHeld => ?_)
  refine takeL 0 58 (v := .pointer (some ⟨q, 0, none⟩)) rfl rfl (by kernel_rfl) (by kernel_rfl) (by kernel_rfl) (by kernel_rfl) (fun _ _ _ h => h) (Or.inl ⟨by rfl, by (intro W hSw; have s2 := CE.out W hSw; go_simp)⟩) hHeld ?_
  (try simp only [List.setIfInBounds_toArray, List.set_cons_zero, List.set_cons_succ])
  refine takeL 2 60 (v := .pointer (some ⟨q, 0, none⟩)) rfl rfl (by kernel_rfl) (by kernel_rfl) (by kernel_rfl) (by kernel_rfl) (fun _ _ _ h => h) (Or.inl ⟨by rfl, by (intro W hSw; have s2 := CE.out W hSw; go_simp)⟩) hHeld ?_
  (try simp only [List.setIfInBounds_toArray, List.set_cons_zero, List.set_cons_succ])
  refine takeL 3 61 (v := .pointer (some ⟨q, 0, none⟩)) rfl rfl (by kernel_rfl) (by kernel_rfl) (by kernel_rfl) (by kernel_rfl) (fun _ _ _ h => h) (Or.inl ⟨by rfl, by (intro W hSw; have s2 := CE.out W hSw; go_simp)⟩) hHeld ?_
  (try simp only [List.setIfInBounds_toArray, List.set_cons_zero, List.set_cons_succ])
  refine takeL 4 62 (v := .pointer (some ⟨q, 0, none⟩)) rfl rfl (by kernel_rfl) (by kernel_rfl) (by kernel_rfl) (by kernel_rfl) (fun _ _ _ h => h) (Or.inl ⟨by rfl, by (intro W hSw; have s2 := CE.out W hSw; go_simp)⟩) hHeld ?_
  (try simp only [List.setIfInBounds_toArray, List.set_cons_zero, List.set_cons_succ])
  refine takeL 5 63 (v := .slice none 0 0) rfl rfl (by kernel_rfl) (by kernel_rfl) (by kernel_rfl) (by kernel_rfl) (fun _ _ _ h => h) (Or.inl ⟨by rfl, by (intro W hSw; have s2 := CE.out W hSw; go_simp)⟩) hHeld ?_
  (try simp only [List.setIfInBounds_toArray, List.set_cons_zero, List.set_cons_succ])
  refine takeL 6 64 (v := .int .i64 0) rfl rfl (by kernel_rfl) (by kernel_rfl) (by kernel_rfl) (by kernel_rfl) (fun _ _ _ h => h) (Or.inl ⟨by rfl, by (intro W hSw; have s2 := CE.out W hSw; go_simp)⟩) hHeld ?_
  (try simp only [List.setIfInBounds_toArray, List.set_cons_zero, List.set_cons_succ])
  refine takeL 7 65 (v := .slice none 0 0) rfl rfl (by kernel_rfl) (by kernel_rfl) (by kernel_rfl) (by kernel_rfl) (fun _ _ _ h => h) (Or.inl ⟨by rfl, by (intro W hSw; have s2 := CE.out W hSw; go_simp)⟩) hHeld ?_
  (try simp only [List.setIfInBounds_toArray, List.set_cons_zero, List.set_cons_succ])
  refine takeL 9 67 (v := .int .i64 id) rfl rfl (by kernel_rfl) (by kernel_rfl) (by kernel_rfl) (by kernel_rfl) (fun _ _ _ h => h) (Or.inl ⟨by rfl, by (intro W hSw; have s2 := CE.out W hSw; go_simp)⟩) hHeld ?_
  (try simp only [List.setIfInBounds_toArray, List.set_cons_zero, List.set_cons_succ])
  refine takeL 10 68 (v := .string text) rfl rfl (by kernel_rfl) (by kernel_rfl) (by kernel_rfl) (by kernel_rfl) (fun _ _ _ h => h) (Or.inl ⟨by rfl, by (intro W hSw; have s2 := CE.out W hSw; go_simp)⟩) hHeld ?_
  (try simp only [List.setIfInBounds_toArray, List.set_cons_zero, List.set_cons_succ])
  refine takeL 11 69 (v := .agg #[.int .i64 id, .string text]) rfl rfl (by kernel_rfl) (by kernel_rfl) (by kernel_rfl) (by kernel_rfl) (fun _ _ _ h => h) (Or.inl ⟨by rfl, by (intro W hSw; have s2 := CE.out W hSw; go_simp)⟩) hHeld ?_
  (try simp only [List.setIfInBounds_toArray, List.set_cons_zero, List.set_cons_succ])
  refine takeL 14 72 (v := .pointer (some ⟨q, 0, none⟩)) rfl rfl (by kernel_rfl) (by kernel_rfl) (by kernel_rfl) (by kernel_rfl) (fun _ _ _ h => h) (Or.inl ⟨by rfl, by (intro W hSw; have s2 := CE.out W hSw; go_simp)⟩) hHeld ?_
  (try simp only [List.setIfInBounds_toArray, List.set_cons_zero, List.set_cons_succ])
  refine takeL 15 73 (v := .pointer (some ⟨q, 0, none⟩)) rfl rfl (by kernel_rfl) (by kernel_rfl) (by kernel_rfl) (by kernel_rfl) (fun _ _ _ h => h) (Or.inl ⟨by rfl, by (intro W hSw; have s2 := CE.out W hSw; go_simp)⟩) hHeld ?_
  (try simp only [List.setIfInBounds_toArray, List.set_cons_zero, List.set_cons_succ])
  refine takeL 16 74 (v := .pointer (some ⟨q, 0, none⟩)) rfl rfl (by kernel_rfl) (by kernel_rfl) (by kernel_rfl) (by kernel_rfl) (fun _ _ _ h => h) (Or.inl ⟨by rfl, by (intro W hSw; have s2 := CE.out W hSw; go_simp)⟩) hHeld ?_
  (try simp only [List.setIfInBounds_toArray, List.set_cons_zero, List.set_cons_succ])
  refine takeL 17 75 (v := .slice none 0 0) rfl rfl (by kernel_rfl) (by kernel_rfl) (by kernel_rfl) (by kernel_rfl) (fun _ _ _ h => h) (Or.inl ⟨by rfl, by (intro W hSw; have s2 := CE.out W hSw; go_simp)⟩) hHeld ?_
  (try simp only [List.setIfInBounds_toArray, List.set_cons_zero, List.set_cons_succ])
  refine takeL 18 76 (v := .int .i64 0) rfl rfl (by kernel_rfl) (by kernel_rfl) (by kernel_rfl) (by kernel_rfl) (fun _ _ _ h => h) (Or.inl ⟨by rfl, by (intro W hSw; have s2 := CE.out W hSw; go_simp)⟩) hHeld ?_
  (try simp only [List.setIfInBounds_toArray, List.set_cons_zero, List.set_cons_succ])
  refine takeL 19 77 (v := .slice none 0 0) rfl rfl (by kernel_rfl) (by kernel_rfl) (by kernel_rfl) (by kernel_rfl) (fun _ _ _ h => h) (Or.inl ⟨by rfl, by (intro W hSw; have s2 := CE.out W hSw; go_simp)⟩) hHeld ?_
  (try simp only [List.setIfInBounds_toArray, List.set_cons_zero, List.set_cons_succ])
  refine anyL_two 1 12 (by kernel_rfl) (upL rfl (fun K hK => ?_)) (upL rfl (fun K hK => ?_))
  · skip
    go_simp
    have row1 := drow_made _ (N := N) (Nat.le_trans HN.out hHeld.size)
    have hb1 := below2 hHeld (below_alloc1 _ (.cells #[] 80))
    refine hK.out _ _ (fun _ => hb1) (fun hHeld0 => ?_)
    have hHeld := hHeld0 (by decide)
    clear hHeld0 hK K
    (try simp only [Act.put, List.setIfInBounds_toArray, List.set_cons_zero, List.set_cons_succ])
    refine anyL_two 8 12 (by kernel_rfl) (upL rfl (fun K hK => ?_)) (upL rfl (fun K hK => ?_))
    · skip
      refine step_append_rd_none rfl (.tmp 59) (.tmp 65) rfl N _ _ (by first | rfl | simp [Act.eval]) row1 (by first | rfl | simp [Act.eval]) ?_
      refine hK.out _ _ (fun _ => hHeld) (fun hHeld0 => ?_)
      have hHeld := hHeld0 (by decide)
      clear hHeld0 hK K
      (try simp only [Act.put, List.setIfInBounds_toArray])
      refine anyL_one 12 (by kernel_rfl) (upL rfl (fun K hK => ?_))
      go_simp
      have hbh := below2 hHeld (below_alloc1 _ (.cells #[.int .i64 id, .string text] 80))
      have HBh := HB9.of _ (id, text) _ (fun k e => (row1.blk e).2)
      have rowh := row1.below' (below_alloc1 _ (.cells #[.int .i64 id, .string text] 80))
      refine hK.out _ _ (fun _ => hbh) (fun hHeld0 => ?_)
      have hHeld := hHeld0 (by decide)
      clear hHeld0 hK K
      (try simp only [Act.put, List.setIfInBounds_toArray, List.set_cons_zero, List.set_cons_succ])
      refine anyL_one 13 (by kernel_rfl) (upL rfl (fun K hK => ?_))
      refine step_append_rd rfl (.tmp 66) (.tmp 70) rfl N _ _ ([(id, text)]) (by first | rfl | simp [Act.eval]) rowh ⟨_, 0, none⟩ 1 1 rfl (by first | rfl | simp [Act.eval]) (HBh.src) (by simp) (Nat.le_trans HN.out hHeld.size) ?_
      intro v4 w4 row4 fr4 new4
      have hb4 := fr4.below hHeld hHeld.size (fun k e => Nat.le_trans (Nat.le_of_eq HNe.out) (rowh.blk e).1)
      refine hK.out _ _ (fun _ => hb4) (fun hHeld0 => ?_)
      have hHeld := hHeld0 (by decide)
      clear hHeld0 hK K
      (try simp only [Act.put, List.setIfInBounds_toArray])
      refine anyL_one 20 (by kernel_rfl) (upL rfl (fun K hK => ?_))
      refine step_append_rd_none rfl (.tmp 71) (.tmp 77) rfl N _ _ (by first | rfl | simp [Act.eval]) row4 (by first | rfl | simp [Act.eval]) ?_
      refine hK.out _ _ (fun _ => hHeld) (fun hHeld0 => ?_)
      have hHeld := hHeld0 (by decide)
      clear hHeld0 hK K
      (try simp only [Act.put])
      refine anyL_one 21 (by kernel_rfl) (upL rfl (fun K hK => ?_))
      go_simp
      refine hK.out _ _ (fun _ => hHeld) (fun hHeld0 => ?_)
      have hHeld := hHeld0 (by decide)
      clear hHeld0 hK K
      (try simp only [Act.put, List.setIfInBounds_toArray, List.set_cons_zero, List.set_cons_succ])
      refine anyL_one 22 (by kernel_rfl) (upL rfl (fun K hK => ?_))
      go_simp
      refine hK.out _ _ (fun _ => hHeld) (fun hHeld0 => ?_)
      have hHeld := hHeld0 (by decide)
      clear hHeld0 hK K
      (try simp only [Act.put, List.setIfInBounds_toArray, List.set_cons_zero, List.set_cons_succ])
      obtain ⟨za, zc, rfl, _, _⟩ := row4.len
      generalize hzn : ([] ++ [(id, text)]).length = zn at row4 ⊢
      clear hzn
      obtain ⟨cz, fz, tz⟩ := HR.out.laid hHeld row4 (Nat.le_of_eq HNe.out) HBw.out
      have TZ := (show Hid _ from tz)
      clear tz
      refine anyL_one 23 (by kernel_rfl) (upL rfl (fun K hK => ?_))
      go_simp
      refine hK.out _ _ (fun q => absurd rfl q) (fun _ => ?_)
      clear hK K
      (try simp only [Act.put, List.setIfInBounds_toArray, List.set_cons_zero, List.set_cons_succ])
      refine anyL_done (by kernel_rfl) ?_ _
      go_wp2_with fail
      go_ret
      exact ⟨rfl, fin9.out _ TZ.out⟩
    · skip
      go_simp
      have hbh := below2 hHeld (below_alloc1 _ (.cells #[.int .i64 id, .string text] 80))
      have HBh := HB9.of _ (id, text) _ (fun k e => (row1.blk e).2)
      have rowh := row1.below' (below_alloc1 _ (.cells #[.int .i64 id, .string text] 80))
      refine hK.out _ _ (fun _ => hbh) (fun hHeld0 => ?_)
      have hHeld := hHeld0 (by decide)
      clear hHeld0 hK K
      (try simp only [Act.put, List.setIfInBounds_toArray, List.set_cons_zero, List.set_cons_succ])
      refine anyL_one 8 (by kernel_rfl) (upL rfl (fun K hK => ?_))
      refine step_append_rd_none rfl (.tmp 59) (.tmp 65) rfl N _ _ (by first | rfl | simp [Act.eval]) rowh (by first | rfl | simp [Act.eval]) ?_
      refine hK.out _ _ (fun _ => hHeld) (fun hHeld0 => ?_)
      have hHeld := hHeld0 (by decide)
      clear hHeld0 hK K
      (try simp only [Act.put, List.setIfInBounds_toArray])
      refine anyL_one 13 (by kernel_rfl) (upL rfl (fun K hK => ?_))
      refine step_append_rd rfl (.tmp 66) (.tmp 70) rfl N _ _ ([(id, text)]) (by first | rfl | simp [Act.eval]) rowh ⟨_, 0, none⟩ 1 1 rfl (by first | rfl | simp [Act.eval]) (HBh.src) (by simp) (Nat.le_trans HN.out hHeld.size) ?_
      intro v4 w4 row4 fr4 new4
      have hb4 := fr4.below hHeld hHeld.size (fun k e => Nat.le_trans (Nat.le_of_eq HNe.out) (rowh.blk e).1)
      refine hK.out _ _ (fun _ => hb4) (fun hHeld0 => ?_)
      have hHeld := hHeld0 (by decide)
      clear hHeld0 hK K
      (try simp only [Act.put])
      refine anyL_one 20 (by kernel_rfl) (upL rfl (fun K hK => ?_))
      refine step_append_rd_none rfl (.tmp 71) (.tmp 77) rfl N _ _ (by first | rfl | simp [Act.eval]) row4 (by first | rfl | simp [Act.eval]) ?_
      refine hK.out _ _ (fun _ => hHeld) (fun hHeld0 => ?_)
      have hHeld := hHeld0 (by decide)
      clear hHeld0 hK K
      (try simp only [Act.put])
      refine anyL_one 21 (by kernel_rfl) (upL rfl (fun K hK => ?_))
      go_simp
      refine hK.out _ _ (fun _ => hHeld) (fun hHeld0 => ?_)
      have hHeld := hHeld0 (by decide)
      clear hHeld0 hK K
      (try simp only [Act.put, List.setIfInBounds_toArray, List.set_cons_zero, List.set_cons_succ])
      refine anyL_one 22 (by kernel_rfl) (upL rfl (fun K hK => ?_))
      go_simp
      refine hK.out _ _ (fun _ => hHeld) (fun hHeld0 => ?_)
      have hHeld := hHeld0 (by decide)
      clear hHeld0 hK K
      (try simp only [Act.put, List.setIfInBounds_toArray, List.set_cons_zero, List.set_cons_succ])
      obtain ⟨za, zc, rfl, _, _⟩ := row4.len
      generalize hzn : ([] ++ [(id, text)]).length = zn at row4 ⊢
      clear hzn
      obtain ⟨cz, fz, tz⟩ := HR.out.laid hHeld row4 (Nat.le_of_eq HNe.out) HBw.out
      have TZ := (show Hid _ from tz)
      clear tz
      refine anyL_one 23 (by kernel_rfl) (upL rfl (fun K hK => ?_))
      go_simp
      refine hK.out _ _ (fun q => absurd rfl q) (fun _ => ?_)
      clear hK K
      (try simp only [Act.put, List.setIfInBounds_toArray, List.set_cons_zero, List.set_cons_succ])
      refine anyL_done (by kernel_rfl) ?_ _
      go_wp2_with fail
      go_ret
      exact ⟨rfl, fin9.out _ TZ.out⟩
  · skip
    go_simp
    have hbh := below2 hHeld (below_alloc1 _ (.cells #[.int .i64 id, .string text] 80))
    have HBh := HB9.of W1.drew (id, text) (.slice none 0 0) (fun k e => by simp [Value.ownBlock] at e)
    refine hK.out _ _ (fun _ => hbh) (fun hHeld0 => ?_)
    have hHeld := hHeld0 (by decide)
    clear hHeld0 hK K
    (try simp only [Act.put, List.setIfInBounds_toArray, List.set_cons_zero, List.set_cons_succ])
    refine anyL_one 1 (by kernel_rfl) (upL rfl (fun K hK => ?_))
    have HB1 := HBh.made
    go_simp
    have row1 := drow_made _ (N := N) (Nat.le_trans HN.out hHeld.size)
    have hb1 := below2 hHeld (below_alloc1 _ (.cells #[] 80))
    refine hK.out _ _ (fun _ => hb1) (fun hHeld0 => ?_)
    have hHeld := hHeld0 (by decide)
    clear hHeld0 hK K
    (try simp only [Act.put, List.setIfInBounds_toArray, List.set_cons_zero, List.set_cons_succ])
    refine anyL_one 8 (by kernel_rfl) (upL rfl (fun K hK => ?_))
    refine step_append_rd_none rfl (.tmp 59) (.tmp 65) rfl N _ _ (by first | rfl | simp [Act.eval]) row1 (by first | rfl | simp [Act.eval]) ?_
    refine hK.out _ _ (fun _ => hHeld) (fun hHeld0 => ?_)
    have hHeld := hHeld0 (by decide)
    clear hHeld0 hK K
    (try simp only [Act.put, List.setIfInBounds_toArray])
    refine anyL_one 13 (by kernel_rfl) (upL rfl (fun K hK => ?_))
    refine step_append_rd rfl (.tmp 66) (.tmp 70) rfl N _ _ ([(id, text)]) (by first | rfl | simp [Act.eval]) row1 ⟨_, 0, none⟩ 1 1 rfl (by first | rfl | simp [Act.eval]) (HB1.src) (by simp) (Nat.le_trans HN.out hHeld.size) ?_
    intro v4 w4 row4 fr4 new4
    have hb4 := fr4.below hHeld hHeld.size (fun k e => Nat.le_trans (Nat.le_of_eq HNe.out) (row1.blk e).1)
    refine hK.out _ _ (fun _ => hb4) (fun hHeld0 => ?_)
    have hHeld := hHeld0 (by decide)
    clear hHeld0 hK K
    (try simp only [Act.put])
    refine anyL_one 20 (by kernel_rfl) (upL rfl (fun K hK => ?_))
    refine step_append_rd_none rfl (.tmp 71) (.tmp 77) rfl N _ _ (by first | rfl | simp [Act.eval]) row4 (by first | rfl | simp [Act.eval]) ?_
    refine hK.out _ _ (fun _ => hHeld) (fun hHeld0 => ?_)
    have hHeld := hHeld0 (by decide)
    clear hHeld0 hK K
    (try simp only [Act.put])
    refine anyL_one 21 (by kernel_rfl) (upL rfl (fun K hK => ?_))
    go_simp
    refine hK.out _ _ (fun _ => hHeld) (fun hHeld0 => ?_)
    have hHeld := hHeld0 (by decide)
    clear hHeld0 hK K
    (try simp only [Act.put, List.setIfInBounds_toArray, List.set_cons_zero, List.set_cons_succ])
    refine anyL_one 22 (by kernel_rfl) (upL rfl (fun K hK => ?_))
    go_simp
    refine hK.out _ _ (fun _ => hHeld) (fun hHeld0 => ?_)
    have hHeld := hHeld0 (by decide)
    clear hHeld0 hK K
    (try simp only [Act.put, List.setIfInBounds_toArray, List.set_cons_zero, List.set_cons_succ])
    obtain ⟨za, zc, rfl, _, _⟩ := row4.len
    generalize hzn : ([] ++ [(id, text)]).length = zn at row4 ⊢
    clear hzn
    obtain ⟨cz, fz, tz⟩ := HR.out.laid hHeld row4 (Nat.le_of_eq HNe.out) HBw.out
    have TZ := (show Hid _ from tz)
    clear tz
    refine anyL_one 23 (by kernel_rfl) (upL rfl (fun K hK => ?_))
    go_simp
    refine hK.out _ _ (fun q => absurd rfl q) (fun _ => ?_)
    clear hK K
    (try simp only [Act.put, List.setIfInBounds_toArray, List.set_cons_zero, List.set_cons_succ])
    refine anyL_done (by kernel_rfl) ?_ _
    go_wp2_with fail
    go_ret
    exact ⟨rfl, fin9.out _ TZ.out⟩
end
end Go.Proofs.YtkjioabhdglkpaaGreat
end

section
namespace Go.Proofs.YtkjioabhdglkpaaGreat
open Go.RowKit

section
variable {B : Nat} {w w' : World} {q : Nat} {v : Value} {l : List (Int × ByteArray)}
/-- What Put of a new row has done. -/
structure Pnew (B : Nat) (w w' : World) (q : Nat) (v : Value) (l : List (Int × ByteArray)) (id : Int) (text : ByteArray) : Prop where
  ex : ∃ i, (∀ y ∈ l.take i, y.1 < id) ∧ (∀ y, l[i]? = some y → id ≤ y.1) ∧ RdTo B w w' q v (l.take i ++ [(id, text)] ++ l.drop i)
set_option maxHeartbeats 25600000 in
set_option maxRecDepth 100000 in
theorem rdput_new9 (h : Rd B w q v l) (hB : B ≤ w.heap.size) (hlen : l.length ≤ 4000) {ra rc : Nat} (hv : v = .slice (some ⟨ra, 0, none⟩) l.length rc) (hc : l.length ≤ rc) {text : ByteArray} {id : Int} (h1 : 1 ≤ id) (h2 : id ≤ 4611686018427387903) (h3 : text.size ≤ 4000) (hx : ∀ y ∈ l, y.1 ≠ id) :
    Calls Tryz.prog 14 #[.pointer (some ⟨q, 0, none⟩), .int .i64 id, .string text] w fun e w' => e = .returned (.int .i64 0) ∧ Pnew B w w' q v l id text := by
  have cF := rdfind_any h (by omega) id
  have d1 : decide (id < 1) = false := by simp; omega
  have d2 : decide (4611686018427387903 < id) = false := by simp; omega
  have d3 : decide ((4000 : Int) < (text.size : Int)) = false := by simp; omega
  have c0 : w.cell? ⟨q, 0, none⟩ = some (.slice (some ⟨ra, 0, none⟩) l.length rc) := by
    have := cell_in h.top 0 _ rfl
    rw [this, hv]; rfl
  have HR := (show Hid _ from h)
  have HV := (show Hid _ from hv)
  have HL : Hid (l.length ≤ 4000) := hlen
  have HC : Hid (l.length ≤ rc) := hc
  have HB0 : Hid (B ≤ w.heap.size) := hB
  obtain ⟨n, hn⟩ : ∃ n, l.length = n := ⟨_, rfl⟩
  have HNN : Hid (l.length = n) := hn
  have d4 : ((n : Int) == 4096) = false := by simp; omega
  rw [hn] at c0
  have hnl : n ≤ 4000 := by omega
  clear h1 h2 h3 h hv hc hB hlen hn
  go_enter Tryz.func14, Tryz.ntmps14
  go_wp2_with fail
  refine cF.mono ?_
  rintro e1 w1 ⟨X, rfl, hw, ⟨hX⟩⟩
  rw [hw]
  clear hw cF
  obtain rfl : X = -1 := by
    rcases hX with ⟨e, _⟩ | ⟨k, t', _, hy⟩
    · exact e
    · exact absurd rfl (hx _ (List.mem_of_getElem? hy))
  clear hX
  go_wp2_with fail
  go_loopw [8] (fun sk wr => ∃ i : Nat, i ≤ n ∧ sk = .int .i64 (i : Int) ∧ Hid (wr = w) ∧ Hid (∀ y ∈ l.take i, y.1 < id)) (fun sk _ => n - (Go.RowKit.intOf sk).toNat)
  case atStart => exact ⟨0, Nat.zero_le _, rfl, rfl, fun y hy => by simp at hy⟩
  case round =>
    obtain ⟨i, hi, rfl, hwr, HAL⟩ := hrel
    rw [hwr.out]
    clear hwr
    obtain ⟨ad, hcut⟩ := HR.out.cut HV.out HC.out (i := i) (m := i) (Nat.le_refl _) (by have := HNN.out; omega)
    rw [HNN.out] at hcut
    by_cases hlt : i < n
    · have hlt2 : (i : Int) < (n : Int) := by omega
      have hxi : l[i]? = some (l[i]'(by have := HNN.out; omega)) := List.getElem?_eq_getElem _
      generalize l[i]'(by have := HNN.out; omega) = y at hxi
      obtain ⟨b, vc', e, _, _, _, s0⟩ := HR.out.row.cell rdC_len hxi
      have e5 := HV.out.symm.trans e
      injection e5 with e6 e7 e8
      injection e6 with e9
      injection e9 with e10
      subst e10
      have r0 := s0 0 _ rfl
      rw [Nat.add_zero] at r0
      clear s0 e7 e8 e
      by_cases hy : y.1 < id
      · have dy : decide (y.1 < id) = true := by simpa using hy
        have HA2 : Hid (∀ z ∈ l.take (i + 1), z.1 < id) := fun z hz => by
          rw [List.take_add_one, hxi] at hz
          rcases List.mem_append.1 hz with p | p
          · exact HAL.out z p
          · simp at p; rw [p]; exact hy
        clear hxi hy hcut
        go_wp2_with fail
        go_roundw
        case rel => exact ⟨i + 1, by omega, by go_num, True.intro, HA2⟩
        case measure => simp [Go.RowKit.intOf]; omega
      · have dy : decide (y.1 < id) = false := by simpa using hy
        have HST : Hid (∀ z, l[i]? = some z → id ≤ z.1) := fun z hz => by
          rw [hxi] at hz
          have : y = z := Option.some.inj hz
          rw [← this]
          omega
        clear hxi hy
        go_wp2_with fail
        generalize hW : w = W1 at *
        have C : Hid (Cut9 W1 q l i i n ra rc ad) := hcut
        have fin9 : Hid (∀ w' : World, RdTo B W1 w' q v ([] ++ l.take i ++ [(id, text)] ++ l.drop i) → Pnew B w w' q v l id text) := fun _ h => ⟨⟨i, HAL.out, HST.out, by rw [hW]; exact h⟩⟩
        have HBw : Hid (B ≤ W1.heap.size) := HB0.out
        have CE : Hid (∀ W, Below W1.heap.size W1 W → W.cell? ⟨q, 0, none⟩ = some (.slice (some ⟨ra, 0, none⟩) n rc)) := C.out.ce
        have hA := C.out.had
        have hinn : (i : Int) ≤ (n : Int) := by have := C.out.hm; omega
        have hnrc : (n : Int) ≤ (rc : Int) := by have := C.out.hrc; omega
        have hirc : (i : Int) ≤ (rc : Int) := by omega
        obtain ⟨N, hN⟩ : ∃ N, W1.heap.size = N := ⟨_, rfl⟩
        have HN : Hid (N ≤ W1.heap.size) := Nat.le_of_eq hN.symm
        have HNe : Hid (W1.heap.size = N) := hN
        clear hN hcut hW
        refine anyL_begin (S := fun W => Below W1.heap.size W1 W) (n := 23) (by kernel_rfl) (below_drew W1) (fun hHeld => ?_)
        refine takeL 0 58 (v := .pointer (some ⟨q, 0, none⟩)) rfl rfl (by kernel_rfl) (by kernel_rfl) (by kernel_rfl) (by kernel_rfl) (fun _ _ _ h => h) (Or.inl ⟨by rfl, by (intro W hSw; have s2 := CE.out W hSw; go_simp)⟩) hHeld ?_
        (try simp only [List.setIfInBounds_toArray, List.set_cons_zero, List.set_cons_succ])
        refine takeL 2 60 (v := .pointer (some ⟨q, 0, none⟩)) rfl rfl (by kernel_rfl) (by kernel_rfl) (by kernel_rfl) (by kernel_rfl) (fun _ _ _ h => h) (Or.inl ⟨by rfl, by (intro W hSw; have s2 := CE.out W hSw; go_simp)⟩) hHeld ?_
        (try simp only [List.setIfInBounds_toArray, List.set_cons_zero, List.set_cons_succ])
        refine takeL 3 61 (v := .pointer (some ⟨q, 0, none⟩)) rfl rfl (by kernel_rfl) (by kernel_rfl) (by kernel_rfl) (by kernel_rfl) (fun _ _ _ h => h) (Or.inl ⟨by rfl, by (intro W hSw; have s2 := CE.out W hSw; go_simp)⟩) hHeld ?_
        (try simp only [List.setIfInBounds_toArray, List.set_cons_zero, List.set_cons_succ])
        refine takeL 4 62 (v := .pointer (some ⟨q, 0, none⟩)) rfl rfl (by kernel_rfl) (by kernel_rfl) (by kernel_rfl) (by kernel_rfl) (fun _ _ _ h => h) (Or.inl ⟨by rfl, by (intro W hSw; have s2 := CE.out W hSw; go_simp)⟩) hHeld ?_
        (try simp only [List.setIfInBounds_toArray, List.set_cons_zero, List.set_cons_succ])
        refine takeL 5 63 (v := .slice (some ⟨ra, 0, none⟩) n rc) rfl rfl (by kernel_rfl) (by kernel_rfl) (by kernel_rfl) (by kernel_rfl) (fun _ _ _ h => h) (Or.inl ⟨by rfl, by (intro W hSw; have s2 := CE.out W hSw; go_simp)⟩) hHeld ?_
        (try simp only [List.setIfInBounds_toArray, List.set_cons_zero, List.set_cons_succ])
        refine takeL 6 64 (v := .int .i64 (i : Int)) rfl rfl (by kernel_rfl) (by kernel_rfl) (by kernel_rfl) (by kernel_rfl) (fun _ _ _ h => h) (Or.inl ⟨by rfl, by (intro W hSw; have s2 := CE.out W hSw; go_simp)⟩) hHeld ?_
        (try simp only [List.setIfInBounds_toArray, List.set_cons_zero, List.set_cons_succ])
        refine takeL 7 65 (v := .slice (some ⟨ra, 0, none⟩) i rc) rfl rfl (by kernel_rfl) (by kernel_rfl) (by kernel_rfl) (by kernel_rfl) (fun _ _ _ h => h) (Or.inl ⟨by rfl, by (intro W hSw; have s2 := CE.out W hSw; go_simp)⟩) hHeld ?_
        (try simp only [List.setIfInBounds_toArray, List.set_cons_zero, List.set_cons_succ])
        refine takeL 9 67 (v := .int .i64 id) rfl rfl (by kernel_rfl) (by kernel_rfl) (by kernel_rfl) (by kernel_rfl) (fun _ _ _ h => h) (Or.inl ⟨by rfl, by (intro W hSw; have s2 := CE.out W hSw; go_simp)⟩) hHeld ?_
        (try simp only [List.setIfInBounds_toArray, List.set_cons_zero, List.set_cons_succ])
        refine takeL 10 68 (v := .string text) rfl rfl (by kernel_rfl) (by kernel_rfl) (by kernel_rfl) (by kernel_rfl) (fun _ _ _ h => h) (Or.inl ⟨by rfl, by (intro W hSw; have s2 := CE.out W hSw; go_simp)⟩) hHeld ?_
        (try simp only [List.setIfInBounds_toArray, List.set_cons_zero, List.set_cons_succ])
        refine takeL 11 69 (v := .agg #[.int .i64 id, .string text]) rfl rfl (by kernel_rfl) (by kernel_rfl) (by kernel_rfl) (by kernel_rfl) (fun _ _ _ h => h) (Or.inl ⟨by rfl, by (intro W hSw; have s2 := CE.out W hSw; go_simp)⟩) hHeld ?_
        (try simp only [List.setIfInBounds_toArray, List.set_cons_zero, List.set_cons_succ])
        refine takeL 14 72 (v := .pointer (some ⟨q, 0, none⟩)) rfl rfl (by kernel_rfl) (by kernel_rfl) (by kernel_rfl) (by kernel_rfl) (fun _ _ _ h => h) (Or.inl ⟨by rfl, by (intro W hSw; have s2 := CE.out W hSw; go_simp)⟩) hHeld ?_
        (try simp only [List.setIfInBounds_toArray, List.set_cons_zero, List.set_cons_succ])
        refine takeL 15 73 (v := .pointer (some ⟨q, 0, none⟩)) rfl rfl (by kernel_rfl) (by kernel_rfl) (by kernel_rfl) (by kernel_rfl) (fun _ _ _ h => h) (Or.inl ⟨by rfl, by (intro W hSw; have s2 := CE.out W hSw; go_simp)⟩) hHeld ?_
        (try simp only [List.setIfInBounds_toArray, List.set_cons_zero, List.set_cons_succ])
        refine takeL 16 74 (v := .pointer (some ⟨q, 0, none⟩)) rfl rfl (by kernel_rfl) (by kernel_rfl) (by kernel_rfl) (by kernel_rfl) (fun _ _ _ h => h) (Or.inl ⟨by rfl, by (intro W hSw; have s2 := CE.out W hSw; go_simp)⟩) hHeld ?_
        (try simp only [List.setIfInBounds_toArray, List.set_cons_zero, List.set_cons_succ])
        refine takeL 17 75 (v := .slice (some ⟨ra, 0, none⟩) n rc) rfl rfl (by kernel_rfl) (by kernel_rfl) (by kernel_rfl) (by kernel_rfl) (fun _ _ _ h => h) (Or.inl ⟨by rfl, by (intro W hSw; have s2 := CE.out W hSw; go_simp)⟩) hHeld ?_
        (try simp only [List.setIfInBounds_toArray, List.set_cons_zero, List.set_cons_succ])
        refine takeL 18 76 (v := .int .i64 (i : Int)) rfl rfl (by kernel_rfl) (by kernel_rfl) (by kernel_rfl) (by kernel_rfl) (fun _ _ _ h => h) (Or.inl ⟨by rfl, by (intro W hSw; have s2 := CE.out W hSw; go_simp)⟩) hHeld ?_
        (try simp only [List.setIfInBounds_toArray, List.set_cons_zero, List.set_cons_succ])
        refine takeL 19 77 (v := .slice (some ad) (n - i) (rc - i)) rfl rfl (by kernel_rfl) (by kernel_rfl) (by kernel_rfl) (by kernel_rfl) (fun _ _ _ h => h) (Or.inl ⟨by rfl, by (intro W hSw; have s2 := CE.out W hSw; go_simp)⟩) hHeld ?_
        (try simp only [List.setIfInBounds_toArray, List.set_cons_zero, List.set_cons_succ])
        refine anyL_two 1 12 (by kernel_rfl) (upL rfl (fun K hK => ?_)) (upL rfl (fun K hK => ?_))
        · skip
          go_simp
          have row1 := drow_made _ (N := N) (Nat.le_trans HN.out hHeld.size)
          have hb1 := below2 hHeld (below_alloc1 _ (.cells #[] 80))
          refine hK.out _ _ (fun _ => hb1) (fun hHeld0 => ?_)
          have hHeld := hHeld0 (by decide)
          clear hHeld0 hK K
          (try simp only [Act.put, List.setIfInBounds_toArray, List.set_cons_zero, List.set_cons_succ])
          refine anyL_two 8 12 (by kernel_rfl) (upL rfl (fun K hK => ?_)) (upL rfl (fun K hK => ?_))
          · skip
            refine step_append_rd rfl (.tmp 59) (.tmp 65) rfl N _ _ (l.take i) (by first | rfl | simp [Act.eval]) row1 ⟨ra, 0, none⟩ i rc C.out.l1 (by first | rfl | simp [Act.eval]) (C.out.s1 _ hHeld) (by have := C.out.hm; have := HL.out; have := C.out.hn; simp; omega) (Nat.le_trans HN.out hHeld.size) ?_
            intro v2 w2 row2 fr2 new2
            have hb2 := fr2.below hHeld hHeld.size (fun k e => Nat.le_trans (Nat.le_of_eq HNe.out) (row1.blk e).1)
            refine hK.out _ _ (fun _ => hb2) (fun hHeld0 => ?_)
            have hHeld := hHeld0 (by decide)
            clear hHeld0 hK K
            (try simp only [Act.put, List.setIfInBounds_toArray])
            refine anyL_one 12 (by kernel_rfl) (upL rfl (fun K hK => ?_))
            go_simp
            have hbh := below2 hHeld (below_alloc1 _ (.cells #[.int .i64 id, .string text] 80))
            have HBh := HB9.of _ (id, text) _ (fun k e => (row2.blk e).2)
            have rowh := row2.below' (below_alloc1 _ (.cells #[.int .i64 id, .string text] 80))
            refine hK.out _ _ (fun _ => hbh) (fun hHeld0 => ?_)
            have hHeld := hHeld0 (by decide)
            clear hHeld0 hK K
            (try simp only [Act.put, List.setIfInBounds_toArray, List.set_cons_zero, List.set_cons_succ])
            refine anyL_one 13 (by kernel_rfl) (upL rfl (fun K hK => ?_))
            refine step_append_rd rfl (.tmp 66) (.tmp 70) rfl N _ _ ([(id, text)]) (by first | rfl | simp [Act.eval]) rowh ⟨_, 0, none⟩ 1 1 rfl (by first | rfl | simp [Act.eval]) (HBh.src) (by have := C.out.hm; have := HL.out; have := C.out.hn; have := C.out.l1; simp; omega) (Nat.le_trans HN.out hHeld.size) ?_
            intro v4 w4 row4 fr4 new4
            have hb4 := fr4.below hHeld hHeld.size (fun k e => Nat.le_trans (Nat.le_of_eq HNe.out) (rowh.blk e).1)
            refine hK.out _ _ (fun _ => hb4) (fun hHeld0 => ?_)
            have hHeld := hHeld0 (by decide)
            clear hHeld0 hK K
            (try simp only [Act.put, List.setIfInBounds_toArray])
            refine anyL_one 20 (by kernel_rfl) (upL rfl (fun K hK => ?_))
            refine step_append_rd rfl (.tmp 71) (.tmp 77) rfl N _ _ (l.drop i) (by first | rfl | simp [Act.eval]) row4 ad (n - i) (rc - i) C.out.l2 (by first | rfl | simp [Act.eval]) (C.out.s2 _ hHeld) (by have := C.out.hm; have := HL.out; have := C.out.hn; have := C.out.l1; simp; omega) (Nat.le_trans HN.out hHeld.size) ?_
            intro v5 w5 row5 fr5 new5
            have hb5 := fr5.below hHeld hHeld.size (fun k e => Nat.le_trans (Nat.le_of_eq HNe.out) (row4.blk e).1)
            refine hK.out _ _ (fun _ => hb5) (fun hHeld0 => ?_)
            have hHeld := hHeld0 (by decide)
            clear hHeld0 hK K
            (try simp only [Act.put])
            refine anyL_one 21 (by kernel_rfl) (upL rfl (fun K hK => ?_))
            go_simp
            refine hK.out _ _ (fun _ => hHeld) (fun hHeld0 => ?_)
            have hHeld := hHeld0 (by decide)
            clear hHeld0 hK K
            (try simp only [Act.put, List.setIfInBounds_toArray, List.set_cons_zero, List.set_cons_succ])
            refine anyL_one 22 (by kernel_rfl) (upL rfl (fun K hK => ?_))
            go_simp
            refine hK.out _ _ (fun _ => hHeld) (fun hHeld0 => ?_)
            have hHeld := hHeld0 (by decide)
            clear hHeld0 hK K
            (try simp only [Act.put, List.setIfInBounds_toArray, List.set_cons_zero, List.set_cons_succ])
            obtain ⟨za, zc, rfl, _, _⟩ := row5.len
            generalize hzn : ([] ++ l.take i ++ [(id, text)] ++ l.drop i).length = zn at row5 ⊢
            clear hzn
            obtain ⟨cz, fz, tz⟩ := HR.out.laid hHeld row5 (Nat.le_of_eq HNe.out) HBw.out
            have TZ := (show Hid _ from tz)
            clear tz
            refine anyL_one 23 (by kernel_rfl) (upL rfl (fun K hK => ?_))
            go_simp
            refine hK.out _ _ (fun q => absurd rfl q) (fun _ => ?_)
            clear hK K
            (try simp only [Act.put, List.setIfInBounds_toArray, List.set_cons_zero, List.set_cons_succ])
            refine anyL_done (by kernel_rfl) ?_ _
            go_wp2_with fail
            go_ret
            exact ⟨rfl, fin9.out _ TZ.out⟩
          · skip
            go_simp
            have hbh := below2 hHeld (below_alloc1 _ (.cells #[.int .i64 id, .string text] 80))
            have HBh := HB9.of _ (id, text) _ (fun k e => (row1.blk e).2)
            have rowh := row1.below' (below_alloc1 _ (.cells #[.int .i64 id, .string text] 80))
            refine hK.out _ _ (fun _ => hbh) (fun hHeld0 => ?_)
            have hHeld := hHeld0 (by decide)
            clear hHeld0 hK K
            (try simp only [Act.put, List.setIfInBounds_toArray, List.set_cons_zero, List.set_cons_succ])
            refine anyL_one 8 (by kernel_rfl) (upL rfl (fun K hK => ?_))
            refine step_append_rd rfl (.tmp 59) (.tmp 65) rfl N _ _ (l.take i) (by first | rfl | simp [Act.eval]) rowh ⟨ra, 0, none⟩ i rc C.out.l1 (by first | rfl | simp [Act.eval]) (C.out.s1 _ hHeld) (by have := C.out.hm; have := HL.out; have := C.out.hn; simp; omega) (Nat.le_trans HN.out hHeld.size) ?_
            intro v2 w2 row2 fr2 new2
            have hb2 := fr2.below hHeld hHeld.size (fun k e => Nat.le_trans (Nat.le_of_eq HNe.out) (rowh.blk e).1)
            refine hK.out _ _ (fun _ => hb2) (fun hHeld0 => ?_)
            have hHeld := hHeld0 (by decide)
            clear hHeld0 hK K
            (try simp only [Act.put, List.setIfInBounds_toArray])
            have HB2 := HBh.app fr2 new2
            refine anyL_one 13 (by kernel_rfl) (upL rfl (fun K hK => ?_))
            refine step_append_rd rfl (.tmp 66) (.tmp 70) rfl N _ _ ([(id, text)]) (by first | rfl | simp [Act.eval]) row2 ⟨_, 0, none⟩ 1 1 rfl (by first | rfl | simp [Act.eval]) (HB2.src) (by have := C.out.hm; have := HL.out; have := C.out.hn; have := C.out.l1; simp; omega) (Nat.le_trans HN.out hHeld.size) ?_
            intro v4 w4 row4 fr4 new4
            have hb4 := fr4.below hHeld hHeld.size (fun k e => Nat.le_trans (Nat.le_of_eq HNe.out) (row2.blk e).1)
            refine hK.out _ _ (fun _ => hb4) (fun hHeld0 => ?_)
            have hHeld := hHeld0 (by decide)
            clear hHeld0 hK K
            (try simp only [Act.put])
            refine anyL_one 20 (by kernel_rfl) (upL rfl (fun K hK => ?_))
            refine step_append_rd rfl (.tmp 71) (.tmp 77) rfl N _ _ (l.drop i) (by first | rfl | simp [Act.eval]) row4 ad (n - i) (rc - i) C.out.l2 (by first | rfl | simp [Act.eval]) (C.out.s2 _ hHeld) (by have := C.out.hm; have := HL.out; have := C.out.hn; have := C.out.l1; simp; omega) (Nat.le_trans HN.out hHeld.size) ?_
            intro v5 w5 row5 fr5 new5
            have hb5 := fr5.below hHeld hHeld.size (fun k e => Nat.le_trans (Nat.le_of_eq HNe.out) (row4.blk e).1)
            refine hK.out _ _ (fun _ => hb5) (fun hHeld0 => ?_)
            have hHeld := hHeld0 (by decide)
            clear hHeld0 hK K
            (try simp only [Act.put])
            refine anyL_one 21 (by kernel_rfl) (upL rfl (fun K hK => ?_))
            go_simp
            refine hK.out _ _ (fun _ => hHeld) (fun hHeld0 => ?_)
            have hHeld := hHeld0 (by decide)
            clear hHeld0 hK K
            (try simp only [Act.put, List.setIfInBounds_toArray, List.set_cons_zero, List.set_cons_succ])
            refine anyL_one 22 (by kernel_rfl) (upL rfl (fun K hK => ?_))
            go_simp
            refine hK.out _ _ (fun _ => hHeld) (fun hHeld0 => ?_)
            have hHeld := hHeld0 (by decide)
            clear hHeld0 hK K
            (try simp only [Act.put, List.setIfInBounds_toArray, List.set_cons_zero, List.set_cons_succ])
            obtain ⟨za, zc, rfl, _, _⟩ := row5.len
            generalize hzn : ([] ++ l.take i ++ [(id, text)] ++ l.drop i).length = zn at row5 ⊢
            clear hzn
            obtain ⟨cz, fz, tz⟩ := HR.out.laid hHeld row5 (Nat.le_of_eq HNe.out) HBw.out
            have TZ := (show Hid _ from tz)
            clear tz
            refine anyL_one 23 (by kernel_rfl) (upL rfl (fun K hK => ?_))
            go_simp
            refine hK.out _ _ (fun q => absurd rfl q) (fun _ => ?_)
            clear hK K
            (try simp only [Act.put, List.setIfInBounds_toArray, List.set_cons_zero, List.set_cons_succ])
            refine anyL_done (by kernel_rfl) ?_ _
            go_wp2_with fail
            go_ret
            exact ⟨rfl, fin9.out _ TZ.out⟩
        · skip
          go_simp
          have hbh := below2 hHeld (below_alloc1 _ (.cells #[.int .i64 id, .string text] 80))
          have HBh := HB9.of W1.drew (id, text) (.slice none 0 0) (fun k e => by simp [Value.ownBlock] at e)
          refine hK.out _ _ (fun _ => hbh) (fun hHeld0 => ?_)
          have hHeld := hHeld0 (by decide)
          clear hHeld0 hK K
          (try simp only [Act.put, List.setIfInBounds_toArray, List.set_cons_zero, List.set_cons_succ])
          refine anyL_one 1 (by kernel_rfl) (upL rfl (fun K hK => ?_))
          have HB1 := HBh.made
          go_simp
          have row1 := drow_made _ (N := N) (Nat.le_trans HN.out hHeld.size)
          have hb1 := below2 hHeld (below_alloc1 _ (.cells #[] 80))
          refine hK.out _ _ (fun _ => hb1) (fun hHeld0 => ?_)
          have hHeld := hHeld0 (by decide)
          clear hHeld0 hK K
          (try simp only [Act.put, List.setIfInBounds_toArray, List.set_cons_zero, List.set_cons_succ])
          refine anyL_one 8 (by kernel_rfl) (upL rfl (fun K hK => ?_))
          refine step_append_rd rfl (.tmp 59) (.tmp 65) rfl N _ _ (l.take i) (by first | rfl | simp [Act.eval]) row1 ⟨ra, 0, none⟩ i rc C.out.l1 (by first | rfl | simp [Act.eval]) (C.out.s1 _ hHeld) (by have := C.out.hm; have := HL.out; have := C.out.hn; simp; omega) (Nat.le_trans HN.out hHeld.size) ?_
          intro v2 w2 row2 fr2 new2
          have hb2 := fr2.below hHeld hHeld.size (fun k e => Nat.le_trans (Nat.le_of_eq HNe.out) (row1.blk e).1)
          refine hK.out _ _ (fun _ => hb2) (fun hHeld0 => ?_)
          have hHeld := hHeld0 (by decide)
          clear hHeld0 hK K
          (try simp only [Act.put, List.setIfInBounds_toArray])
          have HB2 := HB1.app fr2 new2
          refine anyL_one 13 (by kernel_rfl) (upL rfl (fun K hK => ?_))
          refine step_append_rd rfl (.tmp 66) (.tmp 70) rfl N _ _ ([(id, text)]) (by first | rfl | simp [Act.eval]) row2 ⟨_, 0, none⟩ 1 1 rfl (by first | rfl | simp [Act.eval]) (HB2.src) (by have := C.out.hm; have := HL.out; have := C.out.hn; have := C.out.l1; simp; omega) (Nat.le_trans HN.out hHeld.size) ?_
          intro v4 w4 row4 fr4 new4
          have hb4 := fr4.below hHeld hHeld.size (fun k e => Nat.le_trans (Nat.le_of_eq HNe.out) (row2.blk e).1)
          refine hK.out _ _ (fun _ => hb4) (fun hHeld0 => ?_)
          have hHeld := hHeld0 (by decide)
          clear hHeld0 hK K
          (try simp only [Act.put])
          refine anyL_one 20 (by kernel_rfl) (upL rfl (fun K hK => ?_))
          refine step_append_rd rfl (.tmp 71) (.tmp 77) rfl N _ _ (l.drop i) (by first | rfl | simp [Act.eval]) row4 ad (n - i) (rc - i) C.out.l2 (by first | rfl | simp [Act.eval]) (C.out.s2 _ hHeld) (by have := C.out.hm; have := HL.out; have := C.out.hn; have := C.out.l1; simp; omega) (Nat.le_trans HN.out hHeld.size) ?_
          intro v5 w5 row5 fr5 new5
          have hb5 := fr5.below hHeld hHeld.size (fun k e => Nat.le_trans (Nat.le_of_eq HNe.out) (row4.blk e).1)
          refine hK.out _ _ (fun _ => hb5) (fun hHeld0 => ?_)
          have hHeld := hHeld0 (by decide)
          clear hHeld0 hK K
          (try simp only [Act.put])
          refine anyL_one 21 (by kernel_rfl) (upL rfl (fun K hK => ?_))
          go_simp
          refine hK.out _ _ (fun _ => hHeld) (fun hHeld0 => ?_)
          have hHeld := hHeld0 (by decide)
          clear hHeld0 hK K
          (try simp only [Act.put, List.setIfInBounds_toArray, List.set_cons_zero, List.set_cons_succ])
          refine anyL_one 22 (by kernel_rfl) (upL rfl (fun K hK => ?_))
          go_simp
          refine hK.out _ _ (fun _ => hHeld) (fun hHeld0 => ?_)
          have hHeld := hHeld0 (by decide)
          clear hHeld0 hK K
          (try simp only [Act.put, List.setIfInBounds_toArray, List.set_cons_zero, List.set_cons_succ])
          obtain ⟨za, zc, rfl, _, _⟩ := row5.len
          generalize hzn : ([] ++ l.take i ++ [(id, text)] ++ l.drop i).length = zn at row5 ⊢
          clear hzn
          obtain ⟨cz, fz, tz⟩ := HR.out.laid hHeld row5 (Nat.le_of_eq HNe.out) HBw.out
          have TZ := (show Hid _ from tz)
          clear tz
          refine anyL_one 23 (by kernel_rfl) (upL rfl (fun K hK => ?_))
          go_simp
          refine hK.out _ _ (fun q => absurd rfl q) (fun _ => ?_)
          clear hK K
          (try simp only [Act.put, List.setIfInBounds_toArray, List.set_cons_zero, List.set_cons_succ])
          refine anyL_done (by kernel_rfl) ?_ _
          go_wp2_with fail
          go_ret
          exact ⟨rfl, fin9.out _ TZ.out⟩
    · obtain rfl : i = n := by omega
      have HST : Hid (∀ z, l[i]? = some z → id ≤ z.1) := fun z hz => by
        have h1 := (List.getElem?_eq_some_iff.1 hz).1
        have := HNN.out
        omega
      have hlt2 : decide ((i : Int) < (i : Int)) = false := by simp
      go_wp2_with fail
      generalize hW : w = W1 at *
      have C : Hid (Cut9 W1 q l i i i ra rc ad) := hcut
      have fin9 : Hid (∀ w' : World, RdTo B W1 w' q v ([] ++ l.take i ++ [(id, text)] ++ l.drop i) → Pnew B w w' q v l id text) := fun _ h => ⟨⟨i, HAL.out, HST.out, by rw [hW]; exact h⟩⟩
      have HBw : Hid (B ≤ W1.heap.size) := HB0.out
      have CE : Hid (∀ W, Below W1.heap.size W1 W → W.cell? ⟨q, 0, none⟩ = some (.slice (some ⟨ra, 0, none⟩) i rc)) := C.out.ce
      have hA := C.out.had
      have hinn : (i : Int) ≤ (i : Int) := by have := C.out.hm; omega
      have hnrc : (i : Int) ≤ (rc : Int) := by have := C.out.hrc; omega
      have hirc : (i : Int) ≤ (rc : Int) := by omega
      obtain ⟨N, hN⟩ : ∃ N, W1.heap.size = N := ⟨_, rfl⟩
      have HN : Hid (N ≤ W1.heap.size) := Nat.le_of_eq hN.symm
      have HNe : Hid (W1.heap.size = N) := hN
      clear hN hcut hW
      refine anyL_begin (S := fun W => Below W1.heap.size W1 W) (n := 23) (by kernel_rfl) (below_drew W1) (fun hHeld => ?_)
      refine takeL 0 58 (v := .pointer (some ⟨q, 0, none⟩)) rfl rfl (by kernel_rfl) (by kernel_rfl) (by kernel_rfl) (by kernel_rfl) (fun _ _ _ h => h) (Or.inl ⟨by rfl, by (intro W hSw; have s2 := CE.out W hSw; go_simp)⟩) hHeld ?_
      (try simp only [List.setIfInBounds_toArray, List.set_cons_zero, List.set_cons_succ])
      refine takeL 2 60 (v := .pointer (some ⟨q, 0, none⟩)) rfl rfl (by kernel_rfl) (by kernel_rfl) (by kernel_rfl) (by kernel_rfl) (fun _ _ _ h => h) (Or.inl ⟨by rfl, by (intro W hSw; have s2 := CE.out W hSw; go_simp)⟩) hHeld ?_
      (try simp only [List.setIfInBounds_toArray, List.set_cons_zero, List.set_cons_succ])
      refine takeL 3 61 (v := .pointer (some ⟨q, 0, none⟩)) rfl rfl (by kernel_rfl) (by kernel_rfl) (by kernel_rfl) (by kernel_rfl) (fun _ _ _ h => h) (Or.inl ⟨by rfl, by (intro W hSw; have s2 := CE.out W hSw; go_simp)⟩) hHeld ?_
      (try simp only [List.setIfInBounds_toArray, List.set_cons_zero, List.set_cons_succ])
      refine takeL 4 62 (v := .pointer (some ⟨q, 0, none⟩)) rfl rfl (by kernel_rfl) (by kernel_rfl) (by kernel_rfl) (by kernel_rfl) (fun _ _ _ h => h) (Or.inl ⟨by rfl, by (intro W hSw; have s2 := CE.out W hSw; go_simp)⟩) hHeld ?_
      (try simp only [List.setIfInBounds_toArray, List.set_cons_zero, List.set_cons_succ])
      refine takeL 5 63 (v := .slice (some ⟨ra, 0, none⟩) i rc) rfl rfl (by kernel_rfl) (by kernel_rfl) (by kernel_rfl) (by kernel_rfl) (fun _ _ _ h => h) (Or.inl ⟨by rfl, by (intro W hSw; have s2 := CE.out W hSw; go_simp)⟩) hHeld ?_
      (try simp only [List.setIfInBounds_toArray, List.set_cons_zero, List.set_cons_succ])
      refine takeL 6 64 (v := .int .i64 (i : Int)) rfl rfl (by kernel_rfl) (by kernel_rfl) (by kernel_rfl) (by kernel_rfl) (fun _ _ _ h => h) (Or.inl ⟨by rfl, by (intro W hSw; have s2 := CE.out W hSw; go_simp)⟩) hHeld ?_
      (try simp only [List.setIfInBounds_toArray, List.set_cons_zero, List.set_cons_succ])
      refine takeL 7 65 (v := .slice (some ⟨ra, 0, none⟩) i rc) rfl rfl (by kernel_rfl) (by kernel_rfl) (by kernel_rfl) (by kernel_rfl) (fun _ _ _ h => h) (Or.inl ⟨by rfl, by (intro W hSw; have s2 := CE.out W hSw; go_simp)⟩) hHeld ?_
      (try simp only [List.setIfInBounds_toArray, List.set_cons_zero, List.set_cons_succ])
      refine takeL 9 67 (v := .int .i64 id) rfl rfl (by kernel_rfl) (by kernel_rfl) (by kernel_rfl) (by kernel_rfl) (fun _ _ _ h => h) (Or.inl ⟨by rfl, by (intro W hSw; have s2 := CE.out W hSw; go_simp)⟩) hHeld ?_
      (try simp only [List.setIfInBounds_toArray, List.set_cons_zero, List.set_cons_succ])
      refine takeL 10 68 (v := .string text) rfl rfl (by kernel_rfl) (by kernel_rfl) (by kernel_rfl) (by kernel_rfl) (fun _ _ _ h => h) (Or.inl ⟨by rfl, by (intro W hSw; have s2 := CE.out W hSw; go_simp)⟩) hHeld ?_
      (try simp only [List.setIfInBounds_toArray, List.set_cons_zero, List.set_cons_succ])
      refine takeL 11 69 (v := .agg #[.int .i64 id, .string text]) rfl rfl (by kernel_rfl) (by kernel_rfl) (by kernel_rfl) (by kernel_rfl) (fun _ _ _ h => h) (Or.inl ⟨by rfl, by (intro W hSw; have s2 := CE.out W hSw; go_simp)⟩) hHeld ?_
      (try simp only [List.setIfInBounds_toArray, List.set_cons_zero, List.set_cons_succ])
      refine takeL 14 72 (v := .pointer (some ⟨q, 0, none⟩)) rfl rfl (by kernel_rfl) (by kernel_rfl) (by kernel_rfl) (by kernel_rfl) (fun _ _ _ h => h) (Or.inl ⟨by rfl, by (intro W hSw; have s2 := CE.out W hSw; go_simp)⟩) hHeld ?_
      (try simp only [List.setIfInBounds_toArray, List.set_cons_zero, List.set_cons_succ])
      refine takeL 15 73 (v := .pointer (some ⟨q, 0, none⟩)) rfl rfl (by kernel_rfl) (by kernel_rfl) (by kernel_rfl) (by kernel_rfl) (fun _ _ _ h => h) (Or.inl ⟨by rfl, by (intro W hSw; have s2 := CE.out W hSw; go_simp)⟩) hHeld ?_
      (try simp only [List.setIfInBounds_toArray, List.set_cons_zero, List.set_cons_succ])
      refine takeL 16 74 (v := .pointer (some ⟨q, 0, none⟩)) rfl rfl (by kernel_rfl) (by kernel_rfl) (by kernel_rfl) (by kernel_rfl) (fun _ _ _ h => h) (Or.inl ⟨by rfl, by (intro W hSw; have s2 := CE.out W hSw; go_simp)⟩) hHeld ?_
      (try simp only [List.setIfInBounds_toArray, List.set_cons_zero, List.set_cons_succ])
      refine takeL 17 75 (v := .slice (some ⟨ra, 0, none⟩) i rc) rfl rfl (by kernel_rfl) (by kernel_rfl) (by kernel_rfl) (by kernel_rfl) (fun _ _ _ h => h) (Or.inl ⟨by rfl, by (intro W hSw; have s2 := CE.out W hSw; go_simp)⟩) hHeld ?_
      (try simp only [List.setIfInBounds_toArray, List.set_cons_zero, List.set_cons_succ])
      refine takeL 18 76 (v := .int .i64 (i : Int)) rfl rfl (by kernel_rfl) (by kernel_rfl) (by kernel_rfl) (by kernel_rfl) (fun _ _ _ h => h) (Or.inl ⟨by rfl, by (intro W hSw; have s2 := CE.out W hSw; go_simp)⟩) hHeld ?_
      (try simp only [List.setIfInBounds_toArray, List.set_cons_zero, List.set_cons_succ])
      refine takeL 19 77 (v := .slice (some ad) (i - i) (rc - i)) rfl rfl (by kernel_rfl) (by kernel_rfl) (by kernel_rfl) (by kernel_rfl) (fun _ _ _ h => h) (Or.inl ⟨by rfl, by (intro W hSw; have s2 := CE.out W hSw; go_simp)⟩) hHeld ?_
      (try simp only [List.setIfInBounds_toArray, List.set_cons_zero, List.set_cons_succ])
      refine anyL_two 1 12 (by kernel_rfl) (upL rfl (fun K hK => ?_)) (upL rfl (fun K hK => ?_))
      · skip
        go_simp
        have row1 := drow_made _ (N := N) (Nat.le_trans HN.out hHeld.size)
        have hb1 := below2 hHeld (below_alloc1 _ (.cells #[] 80))
        refine hK.out _ _ (fun _ => hb1) (fun hHeld0 => ?_)
        have hHeld := hHeld0 (by decide)
        clear hHeld0 hK K
        (try simp only [Act.put, List.setIfInBounds_toArray, List.set_cons_zero, List.set_cons_succ])
        refine anyL_two 8 12 (by kernel_rfl) (upL rfl (fun K hK => ?_)) (upL rfl (fun K hK => ?_))
        · skip
          refine step_append_rd rfl (.tmp 59) (.tmp 65) rfl N _ _ (l.take i) (by first | rfl | simp [Act.eval]) row1 ⟨ra, 0, none⟩ i rc C.out.l1 (by first | rfl | simp [Act.eval]) (C.out.s1 _ hHeld) (by have := C.out.hm; have := HL.out; have := C.out.hn; simp; omega) (Nat.le_trans HN.out hHeld.size) ?_
          intro v2 w2 row2 fr2 new2
          have hb2 := fr2.below hHeld hHeld.size (fun k e => Nat.le_trans (Nat.le_of_eq HNe.out) (row1.blk e).1)
          refine hK.out _ _ (fun _ => hb2) (fun hHeld0 => ?_)
          have hHeld := hHeld0 (by decide)
          clear hHeld0 hK K
          (try simp only [Act.put, List.setIfInBounds_toArray])
          refine anyL_one 12 (by kernel_rfl) (upL rfl (fun K hK => ?_))
          go_simp
          have hbh := below2 hHeld (below_alloc1 _ (.cells #[.int .i64 id, .string text] 80))
          have HBh := HB9.of _ (id, text) _ (fun k e => (row2.blk e).2)
          have rowh := row2.below' (below_alloc1 _ (.cells #[.int .i64 id, .string text] 80))
          refine hK.out _ _ (fun _ => hbh) (fun hHeld0 => ?_)
          have hHeld := hHeld0 (by decide)
          clear hHeld0 hK K
          (try simp only [Act.put, List.setIfInBounds_toArray, List.set_cons_zero, List.set_cons_succ])
          refine anyL_one 13 (by kernel_rfl) (upL rfl (fun K hK => ?_))
          refine step_append_rd rfl (.tmp 66) (.tmp 70) rfl N _ _ ([(id, text)]) (by first | rfl | simp [Act.eval]) rowh ⟨_, 0, none⟩ 1 1 rfl (by first | rfl | simp [Act.eval]) (HBh.src) (by have := C.out.hm; have := HL.out; have := C.out.hn; have := C.out.l1; simp; omega) (Nat.le_trans HN.out hHeld.size) ?_
          intro v4 w4 row4 fr4 new4
          have hb4 := fr4.below hHeld hHeld.size (fun k e => Nat.le_trans (Nat.le_of_eq HNe.out) (rowh.blk e).1)
          refine hK.out _ _ (fun _ => hb4) (fun hHeld0 => ?_)
          have hHeld := hHeld0 (by decide)
          clear hHeld0 hK K
          (try simp only [Act.put, List.setIfInBounds_toArray])
          refine anyL_one 20 (by kernel_rfl) (upL rfl (fun K hK => ?_))
          refine step_append_rd rfl (.tmp 71) (.tmp 77) rfl N _ _ (l.drop i) (by first | rfl | simp [Act.eval]) row4 ad (i - i) (rc - i) C.out.l2 (by first | rfl | simp [Act.eval]) (C.out.s2 _ hHeld) (by have := C.out.hm; have := HL.out; have := C.out.hn; have := C.out.l1; simp; omega) (Nat.le_trans HN.out hHeld.size) ?_
          intro v5 w5 row5 fr5 new5
          have hb5 := fr5.below hHeld hHeld.size (fun k e => Nat.le_trans (Nat.le_of_eq HNe.out) (row4.blk e).1)
          refine hK.out _ _ (fun _ => hb5) (fun hHeld0 => ?_)
          have hHeld := hHeld0 (by decide)
          clear hHeld0 hK K
          (try simp only [Act.put])
          refine anyL_one 21 (by kernel_rfl) (upL rfl (fun K hK => ?_))
          go_simp
          refine hK.out _ _ (fun _ => hHeld) (fun hHeld0 => ?_)
          have hHeld := hHeld0 (by decide)
          clear hHeld0 hK K
          (try simp only [Act.put, List.setIfInBounds_toArray, List.set_cons_zero, List.set_cons_succ])
          refine anyL_one 22 (by kernel_rfl) (upL rfl (fun K hK => ?_))
          go_simp
          refine hK.out _ _ (fun _ => hHeld) (fun hHeld0 => ?_)
          have hHeld := hHeld0 (by decide)
          clear hHeld0 hK K
          (try simp only [Act.put, List.setIfInBounds_toArray, List.set_cons_zero, List.set_cons_succ])
          obtain ⟨za, zc, rfl, _, _⟩ := row5.len
          generalize hzn : ([] ++ l.take i ++ [(id, text)] ++ l.drop i).length = zn at row5 ⊢
          clear hzn
          obtain ⟨cz, fz, tz⟩ := HR.out.laid hHeld row5 (Nat.le_of_eq HNe.out) HBw.out
          have TZ := (show Hid _ from tz)
          clear tz
          refine anyL_one 23 (by kernel_rfl) (upL rfl (fun K hK => ?_))
          go_simp
          refine hK.out _ _ (fun q => absurd rfl q) (fun _ => ?_)
          clear hK K
          (try simp only [Act.put, List.setIfInBounds_toArray, List.set_cons_zero, List.set_cons_succ])
          refine anyL_done (by kernel_rfl) ?_ _
          go_wp2_with fail
          go_ret
          exact ⟨rfl, fin9.out _ TZ.out⟩
        · skip
          go_simp
          have hbh := below2 hHeld (below_alloc1 _ (.cells #[.int .i64 id, .string text] 80))
          have HBh := HB9.of _ (id, text) _ (fun k e => (row1.blk e).2)
          have rowh := row1.below' (below_alloc1 _ (.cells #[.int .i64 id, .string text] 80))
          refine hK.out _ _ (fun _ => hbh) (fun hHeld0 => ?_)
          have hHeld := hHeld0 (by decide)
          clear hHeld0 hK K
          (try simp only [Act.put, List.setIfInBounds_toArray, List.set_cons_zero, List.set_cons_succ])
          refine anyL_one 8 (by kernel_rfl) (upL rfl (fun K hK => ?_))
          refine step_append_rd rfl (.tmp 59) (.tmp 65) rfl N _ _ (l.take i) (by first | rfl | simp [Act.eval]) rowh ⟨ra, 0, none⟩ i rc C.out.l1 (by first | rfl | simp [Act.eval]) (C.out.s1 _ hHeld) (by have := C.out.hm; have := HL.out; have := C.out.hn; simp; omega) (Nat.le_trans HN.out hHeld.size) ?_
          intro v2 w2 row2 fr2 new2
          have hb2 := fr2.below hHeld hHeld.size (fun k e => Nat.le_trans (Nat.le_of_eq HNe.out) (rowh.blk e).1)
          refine hK.out _ _ (fun _ => hb2) (fun hHeld0 => ?_)
          have hHeld := hHeld0 (by decide)
          clear hHeld0 hK K
          (try simp only [Act.put, List.setIfInBounds_toArray])
          have HB2 := HBh.app fr2 new2
          refine anyL_one 13 (by kernel_rfl) (upL rfl (fun K hK => ?_))
          refine step_append_rd rfl (.tmp 66) (.tmp 70) rfl N _ _ ([(id, text)]) (by first | rfl | simp [Act.eval]) row2 ⟨_, 0, none⟩ 1 1 rfl (by first | rfl | simp [Act.eval]) (HB2.src) (by have := C.out.hm; have := HL.out; have := C.out.hn; have := C.out.l1; simp; omega) (Nat.le_trans HN.out hHeld.size) ?_
          intro v4 w4 row4 fr4 new4
          have hb4 := fr4.below hHeld hHeld.size (fun k e => Nat.le_trans (Nat.le_of_eq HNe.out) (row2.blk e).1)
          refine hK.out _ _ (fun _ => hb4) (fun hHeld0 => ?_)
          have hHeld := hHeld0 (by decide)
          clear hHeld0 hK K
          (try simp only [Act.put])
          refine anyL_one 20 (by kernel_rfl) (upL rfl (fun K hK => ?_))
          refine step_append_rd rfl (.tmp 71) (.tmp 77) rfl N _ _ (l.drop i) (by first | rfl | simp [Act.eval]) row4 ad (i - i) (rc - i) C.out.l2 (by first | rfl | simp [Act.eval]) (C.out.s2 _ hHeld) (by have := C.out.hm; have := HL.out; have := C.out.hn; have := C.out.l1; simp; omega) (Nat.le_trans HN.out hHeld.size) ?_
          intro v5 w5 row5 fr5 new5
          have hb5 := fr5.below hHeld hHeld.size (fun k e => Nat.le_trans (Nat.le_of_eq HNe.out) (row4.blk e).1)
          refine hK.out _ _ (fun _ => hb5) (fun hHeld0 => ?_)
          have hHeld := hHeld0 (by decide)
          clear hHeld0 hK K
          (try simp only [Act.put])
          refine anyL_one 21 (by kernel_rfl) (upL rfl (fun K hK => ?_))
          go_simp
          refine hK.out _ _ (fun _ => hHeld) (fun hHeld0 => ?_)
          have hHeld := hHeld0 (by decide)
          clear hHeld0 hK K
          (try simp only [Act.put, List.setIfInBounds_toArray, List.set_cons_zero, List.set_cons_succ])
          refine anyL_one 22 (by kernel_rfl) (upL rfl (fun K hK => ?_))
          go_simp
          refine hK.out _ _ (fun _ => hHeld) (fun hHeld0 => ?_)
          have hHeld := hHeld0 (by decide)
          clear hHeld0 hK K
          (try simp only [Act.put, List.setIfInBounds_toArray, List.set_cons_zero, List.set_cons_succ])
          obtain ⟨za, zc, rfl, _, _⟩ := row5.len
          generalize hzn : ([] ++ l.take i ++ [(id, text)] ++ l.drop i).length = zn at row5 ⊢
          clear hzn
          obtain ⟨cz, fz, tz⟩ := HR.out.laid hHeld row5 (Nat.le_of_eq HNe.out) HBw.out
          have TZ := (show Hid _ from tz)
          clear tz
          refine anyL_one 23 (by kernel_rfl) (upL rfl (fun K hK => ?_))
          go_simp
          refine hK.out _ _ (fun q => absurd rfl q) (fun _ => ?_)
          clear hK K
          (try simp only [Act.put, List.setIfInBounds_toArray, List.set_cons_zero, List.set_cons_succ])
          refine anyL_done (by kernel_rfl) ?_ _
          go_wp2_with fail
          go_ret
          exact ⟨rfl, fin9.out _ TZ.out⟩
      · skip
        go_simp
        have hbh := below2 hHeld (below_alloc1 _ (.cells #[.int .i64 id, .string text] 80))
        have HBh := HB9.of W1.drew (id, text) (.slice none 0 0) (fun k e => by simp [Value.ownBlock] at e)
        refine hK.out _ _ (fun _ => hbh) (fun hHeld0 => ?_)
        have hHeld := hHeld0 (by decide)
        clear hHeld0 hK K
        (try simp only [Act.put, List.setIfInBounds_toArray, List.set_cons_zero, List.set_cons_succ])
        refine anyL_one 1 (by kernel_rfl) (upL rfl (fun K hK => ?_))
        have HB1 := HBh.made
        go_simp
        have row1 := drow_made _ (N := N) (Nat.le_trans HN.out hHeld.size)
        have hb1 := below2 hHeld (below_alloc1 _ (.cells #[] 80))
        refine hK.out _ _ (fun _ => hb1) (fun hHeld0 => ?_)
        have hHeld := hHeld0 (by decide)
        clear hHeld0 hK K
        (try simp only [Act.put, List.setIfInBounds_toArray, List.set_cons_zero, List.set_cons_succ])
        refine anyL_one 8 (by kernel_rfl) (upL rfl (fun K hK => ?_))
        refine step_append_rd rfl (.tmp 59) (.tmp 65) rfl N _ _ (l.take i) (by first | rfl | simp [Act.eval]) row1 ⟨ra, 0, none⟩ i rc C.out.l1 (by first | rfl | simp [Act.eval]) (C.out.s1 _ hHeld) (by have := C.out.hm; have := HL.out; have := C.out.hn; simp; omega) (Nat.le_trans HN.out hHeld.size) ?_
        intro v2 w2 row2 fr2 new2
        have hb2 := fr2.below hHeld hHeld.size (fun k e => Nat.le_trans (Nat.le_of_eq HNe.out) (row1.blk e).1)
        refine hK.out _ _ (fun _ => hb2) (fun hHeld0 => ?_)
        have hHeld := hHeld0 (by decide)
        clear hHeld0 hK K
        (try simp only [Act.put, List.setIfInBounds_toArray])
        have HB2 := HB1.app fr2 new2
        refine anyL_one 13 (by kernel_rfl) (upL rfl (fun K hK => ?_))
        refine step_append_rd rfl (.tmp 66) (.tmp 70) rfl N _ _ ([(id, text)]) (by first | rfl | simp [Act.eval]) row2 ⟨_, 0, none⟩ 1 1 rfl (by first | rfl | simp [Act.eval]) (HB2.src) (by have := C.out.hm; have := HL.out; have := C.out.hn; have := C.out.l1; simp; omega) (Nat.le_trans HN.out hHeld.size) ?_
        intro v4 w4 row4 fr4 new4
        have hb4 := fr4.below hHeld hHeld.size (fun k e => Nat.le_trans (Nat.le_of_eq HNe.out) (row2.blk e).1)
        refine hK.out _ _ (fun _ => hb4) (fun hHeld0 => ?_)
        have hHeld := hHeld0 (by decide)
        clear hHeld0 hK K
        (try simp only [Act.put])
        refine anyL_one 20 (by kernel_rfl) (upL rfl (fun K hK => ?_))
        refine step_append_rd rfl (.tmp 71) (.tmp 77) rfl N _ _ (l.drop i) (by first | rfl | simp [Act.eval]) row4 ad (i - i) (rc - i) C.out.l2 (by first | rfl | simp [Act.eval]) (C.out.s2 _ hHeld) (by have := C.out.hm; have := HL.out; have := C.out.hn; have := C.out.l1; simp; omega) (Nat.le_trans HN.out hHeld.size) ?_
        intro v5 w5 row5 fr5 new5
        have hb5 := fr5.below hHeld hHeld.size (fun k e => Nat.le_trans (Nat.le_of_eq HNe.out) (row4.blk e).1)
        refine hK.out _ _ (fun _ => hb5) (fun hHeld0 => ?_)
        have hHeld := hHeld0 (by decide)
        clear hHeld0 hK K
        (try simp only [Act.put])
        refine anyL_one 21 (by kernel_rfl) (upL rfl (fun K hK => ?_))
        go_simp
        refine hK.out _ _ (fun _ => hHeld) (fun hHeld0 => ?_)
        have hHeld := hHeld0 (by decide)
        clear hHeld0 hK K
        (try simp only [Act.put, List.setIfInBounds_toArray, List.set_cons_zero, List.set_cons_succ])
        refine anyL_one 22 (by kernel_rfl) (upL rfl (fun K hK => ?_))
        go_simp
        refine hK.out _ _ (fun _ => hHeld) (fun hHeld0 => ?_)
        have hHeld := hHeld0 (by decide)
        clear hHeld0 hK K
        (try simp only [Act.put, List.setIfInBounds_toArray, List.set_cons_zero, List.set_cons_succ])
        obtain ⟨za, zc, rfl, _, _⟩ := row5.len
        generalize hzn : ([] ++ l.take i ++ [(id, text)] ++ l.drop i).length = zn at row5 ⊢
        clear hzn
        obtain ⟨cz, fz, tz⟩ := HR.out.laid hHeld row5 (Nat.le_of_eq HNe.out) HBw.out
        have TZ := (show Hid _ from tz)
        clear tz
        refine anyL_one 23 (by kernel_rfl) (upL rfl (fun K hK => ?_))
        go_simp
        refine hK.out _ _ (fun q => absurd rfl q) (fun _ => ?_)
        clear hK K
        (try simp only [Act.put, List.setIfInBounds_toArray, List.set_cons_zero, List.set_cons_succ])
        refine anyL_done (by kernel_rfl) ?_ _
        go_wp2_with fail
        go_ret
        exact ⟨rfl, fin9.out _ TZ.out⟩
end
end Go.Proofs.YtkjioabhdglkpaaGreat
end

section
namespace Go.Proofs.YtkjioabhdglkpaaGreat
open Go.RowKit

/-- The document's rows that rows are. -/
def lR (rs : List Ro) : List (Int × ByteArray) := rs.map (fun x => ((x.id : Int), x.text))
theorem lR_fst (rs : List Ro) : (lR rs).map Prod.fst = idsR rs := by unfold lR idsR; rw [List.map_map]; rfl
theorem lR_all (rs : List Ro) : allN (lR rs) = pieN rs := by unfold allN lR pieN; rw [List.map_map]; rfl
theorem lR_mem {rs : List Ro} {x : Ro} (hx : x ∈ rs) : ((x.id : Int), x.text) ∈ lR rs := List.mem_map.2 ⟨x, hx, rfl⟩
theorem lR_ne {rs : List Ro} {i : Int} (h : i ∉ idsR rs) : ∀ y ∈ lR rs, y.1 ≠ i := fun y hy e => by
  obtain ⟨x, hx, rfl⟩ := List.mem_map.1 hy
  exact h (ids_mem.2 ⟨x, hx, e⟩)
theorem lR_del {rs : List Ro} (h : Rise rs) {k : Nat} {x : Ro} (hk : rs[k]? = some x) : lR (delRo rs x.id) = (lR rs).eraseIdx k := by
  induction rs generalizing k with
  | nil => simp at hk
  | cons y rs ih =>
    unfold Rise at h
    rw [List.pairwise_cons] at h
    cases k with
    | zero =>
      have e : y = x := by simpa using hk
      subst e
      have hd : delRo (y :: rs) y.id = rs := by
        unfold delRo
        rw [List.filter_cons]
        simp only [BEq.rfl, Bool.not_true, Bool.false_eq_true, if_false]
        rw [List.filter_eq_self]
        intro z hz
        have := h.1 z hz
        simp
        omega
      rw [hd]
      rfl
    | succ k =>
      have hk2 : rs[k]? = some x := by simpa using hk
      have hlt := h.1 x (List.mem_of_getElem? hk2)
      have hd : delRo (y :: rs) x.id = y :: delRo rs x.id := by
        unfold delRo
        rw [List.filter_cons, if_pos (by simp; omega)]
      rw [hd]
      show _ :: lR (delRo rs x.id) = _
      rw [ih h.2 hk2]
      rfl
theorem lR_set {rs : List Ro} (h : Rise rs) {k : Nat} {x y : Ro} (hk : rs[k]? = some y) (e : x.id = y.id) : lR (putRo rs x) = (lR rs).set k ((x.id : Int), x.text) := by
  induction rs generalizing k with
  | nil => simp at hk
  | cons z rs ih =>
    unfold Rise at h
    rw [List.pairwise_cons] at h
    cases k with
    | zero =>
      have e2 : z = y := by simpa using hk
      subst e2
      unfold putRo
      rw [if_neg (by omega), if_pos e]
      rfl
    | succ k =>
      have hk2 : rs[k]? = some y := by simpa using hk
      have hlt := h.1 y (List.mem_of_getElem? hk2)
      unfold putRo
      rw [if_neg (by omega), if_neg (by omega)]
      show _ :: lR (putRo rs x) = _
      rw [ih h.2 hk2]
      rfl
theorem lR_ins {rs : List Ro} (h : Rise rs) {i : Nat} {x : Ro} (h1 : ∀ y ∈ (lR rs).take i, y.1 < (x.id : Int)) (h2 : ∀ y, (lR rs)[i]? = some y → (x.id : Int) ≤ y.1) (hx : (x.id : Int) ∉ idsR rs) : lR (putRo rs x) = (lR rs).take i ++ [((x.id : Int), x.text)] ++ (lR rs).drop i := by
  induction rs generalizing i with
  | nil => simp [putRo, lR]
  | cons z rs ih =>
    unfold Rise at h
    rw [List.pairwise_cons] at h
    have hne : x.id ≠ z.id := fun e => hx (ids_mem.2 ⟨z, by simp, by rw [e]⟩)
    cases i with
    | zero =>
      have := h2 ((z.id : Int), z.text) rfl
      simp only at this
      unfold putRo
      rw [if_pos (by omega)]
      rfl
    | succ i =>
      have hz := h1 ((z.id : Int), z.text) (by simp [lR])
      simp only at hz
      unfold putRo
      rw [if_neg (by omega), if_neg hne]
      show _ :: lR (putRo rs x) = _
      rw [ih h.2 (fun y hy => h1 y (by simp [lR] at hy ⊢; exact Or.inr hy)) (fun y hy => h2 y (by simpa [lR] using hy)) (fun q => hx (by obtain ⟨y, hy, e⟩ := ids_mem.1 q; exact ids_mem.2 ⟨y, List.mem_cons_of_mem _ hy, e⟩))]
      rfl

section
variable {W w w' : World} {rb hb p g bd n m : Nat} {rs : List Ro} {G G' : Nat → Prop}
/-- What others have changes. -/
theorem Rz.own {F : Nat → Prop} (h : Rz W w rb hb p g bd n m rs G) (f : Fr F w w') (hF : ∀ k, F k → G k ∨ w.heap.size ≤ k) (hG : ∀ k, G' k → (G k ∨ w.heap.size ≤ k) ∧ k < w'.heap.size) : Rz W w' rb hb p g bd n m rs G' := by
  obtain ⟨mb, wa, wc, vf, H, r, q⟩ := h.ex
  have hl : ∀ k, Ft rb mb rs vf k → k < w.heap.size := fun k z => r.dx.lt (Or.inr z)
  have hk : Keep (Ft rb mb rs vf) w w' := fun k z => f.block k (hl k z) (fun y => (hF k y).elim (r.ap k z) (fun y => by have := hl k z; omega))
  refine ⟨mb, wa, wc, vf, H, ⟨r.dx.own f (fun k y => (hF k y).imp Or.inl id) (fun k y => ?_), (hk rb Rm.rbF).trans r.top, r.mp.kept (hk mb Rm.mbF), fun x hx => (r.row x hx).kept (fun j e => hk j (Rm.roF hx e)), r.ok, r.rise, fun k z y => ?_⟩, q⟩
  · rcases y with y | y
    · exact ⟨(hG k y).1.imp Or.inl id, (hG k y).2⟩
    · exact ⟨Or.inl (Or.inr y), Nat.lt_of_lt_of_le (hl k y) f.size⟩
  · rcases (hG k y).1 with e | e
    · exact r.ap k z e
    · have := hl k z; omega

theorem Rz.lt (h : Rz W w rb hb p g bd n m rs G) {k : Nat} (hk : G k) : k < w.heap.size := by
  obtain ⟨mb, wa, wc, vf, H, r, q⟩ := h.ex
  exact r.dx.lt (Or.inl hk)
/-- Both sides; E: blocks beside. -/
structure Bo (W w : World) (rb hb p g bd n m : Nat) (rs : List Ro) (q : Nat) (v : Value) (E : Nat → Prop) : Prop where
  rz : Rz W w rb hb p g bd n m rs (fun k => (k = q ∨ v.ownBlock = some k) ∨ E k)
  rd : Rd W.heap.size w q v (lR rs)
  ap : ∀ k, E k → k ≠ q ∧ v.ownBlock ≠ some k
section
variable {q : Nat} {v : Value} {E : Nat → Prop}
theorem Bo.step {bd' : Nat} {rs' : List Ro} (h : Bo W w rb hb p g bd n m rs q v E) {rb' : Nat} (t : Rz' W w w' rb' hb p g bd' n m rs' (fun k => (k = q ∨ v.ownBlock = some k) ∨ E k)) (e : lR rs' = lR rs) : Bo W w' rb' hb p g bd' n m rs' q v E := ⟨t.rz, by rw [e]; exact h.rd.kept (fun j hj => t.keep j (Or.inl hj)), h.ap⟩
theorem Bo.below (h : Bo W w rb hb p g bd n m rs q v E) (b : Below w.heap.size w w') : Bo W w' rb hb p g bd n m rs q v E := ⟨h.rz.below b, h.rd.below b, h.ap⟩
theorem Bo.keepB (h : Bo W w rb hb p g bd n m rs q v E) (b : Below w.heap.size w w') : Keep E w w' := fun k hk => b.block k (h.rz.lt (Or.inr hk))
theorem Bo.mono {c : Nat} (h : Bo W w rb hb p g bd n m rs q v E) (hc : bd ≤ c) : Bo W w rb hb p g c n m rs q v E := ⟨h.rz.mono hc, h.rd, h.ap⟩
theorem Bo.drew (h : Bo W w rb hb p g bd n m rs q v E) : Bo W w.drew rb hb p g bd n m rs q v E := h.below (below_drew w)
/-- A block beside, more or less. -/
theorem Bo.box (h : Bo W w rb hb p g bd n m rs q v E) (o : Obj) : Bo W (w.alloc o) rb hb p g bd n m rs q v (fun k => k = w.heap.size) := by
  have b := below_alloc1 w o
  refine ⟨h.rz.own (F := fun _ => False) (Fr.of_below b) (fun _ z => z.elim) (fun k hk => ?_), h.rd.below b, fun k e => ?_⟩
  · rcases hk with z | z
    · exact ⟨Or.inl (Or.inl z), Nat.lt_of_lt_of_le (h.rz.lt (Or.inl z)) b.size⟩
    · exact ⟨Or.inr (by omega), by simp; omega⟩
  · subst e
    refine ⟨fun z => ?_, fun z => ?_⟩
    · have := lt_of_some h.rd.top; omega
    · have := (h.rd.row.blk z).2; omega
end
end
end Go.Proofs.YtkjioabhdglkpaaGreat
end

section
namespace Go.Proofs.YtkjioabhdglkpaaGreat
open Go.RowKit

section
variable {W w w' : World} {rb hb p g bd n m : Nat} {rs : List Ro} {q : Nat} {v : Value} {E9 : Nat → Prop}
theorem lR_len (rs : List Ro) : (lR rs).length = rs.length := by unfold lR; simp
theorem lR_nodup {rs : List Ro} (h : Rise rs) : ((lR rs).map Prod.fst).Nodup := by rw [lR_fst]; exact ids_nodup h
theorem long_row {w : World} {B : Nat} {v : Value} {l : List Int} (h : w.ownsRow B 2 1 v l.length (l.map (Value.int .i64))) : LRow w B v l := ⟨by
  have e : l.flatMap lgC = l.map (Value.int .i64) := by
    clear h
    induction l with
    | nil => rfl
    | cons x l ih => rw [List.flatMap_cons, ih]; rfl
  rw [e]
  exact h⟩

theorem Rz.ids9 {G : Nat → Prop} (h : Rz W w rb hb p g bd n m rs G) (hlen : rs.length ≤ 100000) :
    Calls Tryz.prog 26 #[.pointer (some ⟨rb, 0, none⟩)] w fun e w' => ∃ a c, e = .returned (.slice a (idsR rs).length c) ∧ LRow w' w.heap.size (.slice a (idsR rs).length c) (idsR rs) ∧ Below w.heap.size w w' := by
  obtain ⟨mb, wa, wc, vf, H, r, q⟩ := h.ex
  refine (roids_any r hlen).mono ?_
  rintro e w' ⟨v, rfl, row, b⟩
  obtain ⟨a, c, rfl, _, _⟩ := (long_row row).len
  exact ⟨a, c, rfl, long_row row, b⟩
/-- What both tell of an id. -/
theorem tell_at (h : Bo W w rb hb p g bd n m rs q v E9) (hbd : bd ≤ 5000000) (hm : 1 ≤ m) (hlen : rs.length ≤ 4000) {i : Int} (hi : i64B i) :
    ∃ (T : ByteArray) (E : Int) (C : Nat),
      (Calls Tryz.prog 28 #[.pointer (some ⟨rb, 0, none⟩), .int .i64 i] w fun e w' => e = .returned (.tuple #[.string T, .int .i64 E]) ∧ Rz' W w w' rb hb p g (bd + 36) n m rs (fun k => (k = q ∨ v.ownBlock = some k) ∨ E9 k)) ∧
      (∀ w1, Rd W.heap.size w1 q v (lR rs) → Calls Tryz.prog 43 #[.pointer (some ⟨q, 0, none⟩), .int .i64 i] w1 fun e w' => e = .returned (.tuple #[.string T, .int .i64 E]) ∧ w' = w1) ∧
      (∀ bd1 w1, Rz W w1 rb hb p g bd1 n m rs (fun k => (k = q ∨ v.ownBlock = some k) ∨ E9 k) → Calls Tryz.prog 29 #[.pointer (some ⟨rb, 0, none⟩), .int .i64 i] w1 fun e w' => e = .returned (.int .i64 (C : Int)) ∧ w' = w1) ∧
      (∀ w1, Rd W.heap.size w1 q v (lR rs) → Calls Tryz.prog 44 #[.pointer (some ⟨q, 0, none⟩), .int .i64 i] w1 fun e w' => e = .returned (.int .i64 (C : Int)) ∧ w' = w1) := by
  have hl : (lR rs).length ≤ 100000 := by rw [lR_len]; omega
  have hnd := lR_nodup h.rz.rise
  by_cases hx : i ∈ idsR rs
  · obtain ⟨x, hxm, rfl⟩ := ids_mem.1 hx
    have ht := (h.rz.rok x hxm).text
    exact ⟨x.text, 0, cntN x.text.size, h.rz.get hbd hm hxm, fun w1 r => rdget_yes r hl hnd (lR_mem hxm), fun bd1 w1 r => r.pieces_yes hxm, fun w1 r => rdpieces_yes r hl hnd (lR_mem hxm) (by omega)⟩
  · refine ⟨⟨#[]⟩, 60, 0, ?_, fun w1 r => rdget_no r hl (lR_ne hx), fun bd1 w1 r => r.pieces_no hi hx, fun w1 r => rdpieces_no r hl (lR_ne hx)⟩
    refine (h.rz.get_no hi hx).mono ?_
    rintro e w' ⟨rfl, rfl⟩
    exact ⟨rfl, h.rz.refl.mono (by omega)⟩

set_option maxHeartbeats 3200000 in
set_option maxRecDepth 100000 in
theorem same9_any (h : Bo W w rb hb p g bd n m rs q v E9) (hbd : bd ≤ 4900000) (hm : 1 ≤ m) (hn : n ≤ 500) (hlen : rs.length ≤ 4000) {i : Int} (hi : i64B i) :
    Calls Tryz.prog 19 #[.pointer (some ⟨rb, 0, none⟩), .pointer (some ⟨hb, 0, none⟩), .pointer (some ⟨q, 0, none⟩), .int .i64 i] w fun e w' => e = .returned (.bool true) ∧ Bo W w' rb hb p g (bd + 36 + 3 * n + 6) n m rs q v E9 ∧ Keep E9 w w' := by
  obtain ⟨T, E, C, cG, dG, cPi, dPi⟩ := tell_at h (by omega) hm hlen hi
  have HH := (show Hid _ from h)
  have HRK := (show Hid _ from h.rz.rok)
  clear h
  go_enter Tryz.func19, Tryz.ntmps19
  go_wp2_with fail
  refine cG.mono ?_
  rintro e w1 ⟨rfl, r1⟩
  have H1 := (show Hid _ from HH.out.step r1 rfl)
  have K1 : Hid (Keep E9 w w1) := r1.keep.less (fun k z => Or.inr z)
  have dG1 := dG w1 H1.out.rd
  clear cG r1 dG HH
  go_wp2_with fail
  refine dG1.mono ?_
  rintro e w2 ⟨rfl, hw⟩
  rw [hw]
  clear hw dG1 w2
  have cQ := H1.out.rz.places (by omega) hm hn
  go_wp2_with fail
  refine cQ.mono ?_
  rintro e w2 ⟨pa, pc, rfl, r2⟩
  have H2 := (show Hid _ from H1.out.step r2 rfl)
  have K2 : Hid (Keep E9 w w2) := Keep.trans K1.out (r2.keep.less (fun k z => Or.inr z))
  have cA := rdall_any H2.out.rd (by rw [lR_len]; omega) (fun y hy => by
    obtain ⟨x, hx, rfl⟩ := List.mem_map.1 hy
    exact (HRK.out x hx).text)
  rw [lR_all] at cA
  have cP1 := cPi _ _ H2.out.rz
  have cP2 := dPi _ H2.out.rd
  clear cQ r2 H1 cPi dPi
  generalize pieN rs = PN at *
  go_wp2_with fail
  refine cA.mono ?_
  rintro e w3 ⟨rfl, hw⟩
  rw [hw]
  clear hw cA w3
  go_wp2_with fail
  refine cP1.mono ?_
  rintro e w3 ⟨rfl, hw⟩
  rw [hw]
  clear hw cP1 w3
  go_wp2_with fail
  refine cP2.mono ?_
  rintro e w3 ⟨rfl, hw⟩
  rw [hw]
  clear hw cP2 w3
  have cI := H2.out.rz.ids9 (by omega)
  go_wp2_with fail
  refine cI.mono ?_
  rintro e w3 ⟨ia, ic, rfl, row3, b3⟩
  have R3 := (show Hid _ from row3)
  have H3 : Hid (Bo W w3 rb hb p g (bd + 36 + 3 * n + 6) n m rs q v E9) := H2.out.below b3
  have K3 : Hid (Keep E9 w w3) := Keep.trans K2.out (H2.out.keepB b3)
  have dI := rdids_any H3.out.rd (by rw [lR_len]; omega)
  rw [lR_fst] at dI
  clear cI row3 b3 H2
  go_wp2_with fail
  refine dI.mono ?_
  rintro e w4 ⟨ja, jc, rfl, row4, b4⟩
  have H4 : Hid (Bo W w4 rb hb p g (bd + 36 + 3 * n + 6) n m rs q v E9) := H3.out.below b4
  have K4 : Hid (Keep E9 w w4) := Keep.trans K3.out (H3.out.keepB b4)
  have cL := longs_any (R3.out.below' b4) row4
  clear dI row4 b4 R3 H3
  generalize (idsR rs).length = IL at *
  go_wp2_with fail
  refine cL.mono ?_
  rintro e w5 ⟨rfl, b5⟩
  have H5 : Hid (Bo W w5 rb hb p g (bd + 36 + 3 * n + 6) n m rs q v E9) := H4.out.below b5
  have K5 : Hid (Keep E9 w w5) := Keep.trans K4.out (H4.out.keepB b5)
  clear cL b5 H4
  go_wp2_with fail
  go_ret
  exact ⟨rfl, H5.out, K5.out⟩
end
end Go.Proofs.YtkjioabhdglkpaaGreat
end

section
namespace Go.Proofs.YtkjioabhdglkpaaGreat
open Go.RowKit

section
variable {B : Nat} {W w w' : World} {rb hb p g bd n m : Nat} {rs rs' : List Ro} {q : Nat} {v : Value}
theorem RdTo.same {l : List (Int × ByteArray)} (h : Rd B w q v l) : RdTo B w w q v l := ⟨v, h, Fr.refl _ _, fun _ e => Or.inl e⟩
theorem rdput_at (h : Rd B w q v (lR rs)) (hB : B ≤ w.heap.size) (hr : Rise rs) (hlen : rs.length ≤ 4000) {i X : Int} {text : ByteArray} (hX : X ≠ 50) (pr : PutR n rs i text X rs') :
    Calls Tryz.prog 14 #[.pointer (some ⟨q, 0, none⟩), .int .i64 i, .string text] w fun e w' => e = .returned (.int .i64 X) ∧ RdTo B w w' q v (lR rs') := by
  rcases pr.out with ⟨rfl, h1, rfl⟩ | ⟨rfl, h1, h2, h3, rfl⟩ | ⟨h1, h2, h3, ⟨h4, _⟩ | ⟨rfl, ks, hok, rfl⟩⟩
  · refine (rdput_arg q i text w h1).mono ?_
    rintro e w' ⟨rfl, rfl⟩
    exact ⟨rfl, RdTo.same h⟩
  · refine (rdput_long q i text w h1 h2 h3).mono ?_
    rintro e w' ⟨rfl, rfl⟩
    exact ⟨rfl, RdTo.same h⟩
  · exact absurd h4 hX
  obtain ⟨id, rfl⟩ : ∃ id : Nat, i = (id : Int) := ⟨i.toNat, by omega⟩
  have hid : ((id : Int)).toNat = id := by omega
  rw [hid]
  by_cases hx : (id : Int) ∈ idsR rs
  · obtain ⟨y, hy, e⟩ := ids_mem.1 hx
    obtain ⟨k, hk⟩ := List.getElem?_of_mem hy
    have hk2 : (lR rs)[k]? = some ((id : Int), y.text) := by unfold lR; rw [List.getElem?_map, hk, ← e]; rfl
    refine (rdput_old h (by rw [lR_len]; exact hlen) h1 h2 h3 (lR_nodup hr) hk2).mono ?_
    rintro e w' ⟨rfl, t⟩
    exact ⟨rfl, by rw [lR_set hr hk (by show id = y.id; omega)]; exact t⟩
  · rcases h.row.own.2 with ⟨ev, e0⟩ | ⟨b, cap, cur, ev, _, _, hc, _⟩
    · have e1 : rs = [] := by rw [lR_len] at e0; exact List.eq_nil_of_length_eq_zero e0
      subst e1
      subst ev
      refine (rdput_nil9 h hB h1 h2 h3).mono ?_
      rintro e w' ⟨rfl, t⟩
      exact ⟨rfl, t⟩
    · refine (rdput_new9 h hB (by rw [lR_len]; exact hlen) ev hc h1 h2 h3 (lR_ne hx)).mono ?_
      rintro e w' ⟨rfl, ⟨k, a1, a2, t⟩⟩
      exact ⟨rfl, by rw [lR_ins (x := ⟨id, text, ks⟩) hr a1 a2 hx]; exact t⟩
theorem rddel_at (h : Rd B w q v (lR rs)) (hB : B ≤ w.heap.size) (hr : Rise rs) (hlen : rs.length ≤ 4000) {i X : Int} (pr : DelR rs i X rs') :
    Calls Tryz.prog 16 #[.pointer (some ⟨q, 0, none⟩), .int .i64 i] w fun e w' => e = .returned (.int .i64 X) ∧ RdTo B w w' q v (lR rs') := by
  rcases pr.out with ⟨rfl, hx, rfl⟩ | ⟨rfl, hx, rfl⟩
  · refine (rddel_no h (by rw [lR_len]; omega) (lR_ne hx)).mono ?_
    rintro e w' ⟨rfl, rfl⟩
    exact ⟨rfl, RdTo.same h⟩
  · obtain ⟨y, hy, rfl⟩ := ids_mem.1 hx
    obtain ⟨k, hk⟩ := List.getElem?_of_mem hy
    have hk2 : (lR rs)[k]? = some ((y.id : Int), y.text) := by unfold lR; rw [List.getElem?_map, hk]; rfl
    refine (rddel_yes h hB (by rw [lR_len]; omega) (lR_nodup hr) hk2).mono ?_
    rintro e w' ⟨rfl, t⟩
    have hid : ((y.id : Int)).toNat = y.id := by omega
    exact ⟨rfl, by rw [hid, lR_del hr hk]; exact t⟩
section
variable {E : Nat → Prop}
/-- Both have gone the step. -/
theorem Rz.met (h : Rz W w rb hb p g bd n m rs' (fun k => (k = q ∨ v.ownBlock = some k) ∨ E k)) (ap : ∀ k, E k → k ≠ q ∧ v.ownBlock ≠ some k) (t : RdTo W.heap.size w w' q v (lR rs')) : (∃ v', Bo W w' rb hb p g bd n m rs' q v' E) ∧ Keep E w w' := by
  obtain ⟨v', r, f, hn⟩ := t.ex
  refine ⟨⟨v', h.own f (fun k hk => Or.inl (Or.inl hk)) (fun k hk => ⟨?_, ?_⟩), r, fun k hk => ⟨(ap k hk).1, fun e => ?_⟩⟩, fun k hk => f.block k (h.lt (Or.inr hk)) (fun z => z.elim (ap k hk).1 (ap k hk).2)⟩
  · rcases hk with (e | e) | e
    · exact Or.inl (Or.inl (Or.inl e))
    · exact (hn k e).imp (fun z => Or.inl (Or.inr z)) id
    · exact Or.inl (Or.inr e)
  · rcases hk with (e | e) | e
    · rw [e]; exact lt_of_some r.top
    · exact (r.row.blk e).2
    · exact Nat.lt_of_lt_of_le (h.lt (Or.inr e)) f.size
  · rcases hn k e with z | z
    · exact (ap k hk).2 z
    · have := h.lt (Or.inr hk); omega
/-- The program has made its step, the document not yet. -/
theorem Bo.mid {bd' : Nat} (h : Bo W w rb hb p g bd n m rs q v E) {rb' : Nat} (t : Rz' W w w' rb' hb p g bd' n m rs' (fun k => (k = q ∨ v.ownBlock = some k) ∨ E k)) : Rd W.heap.size w' q v (lR rs) := h.rd.kept (fun j hj => t.keep j (Or.inl hj))
end
theorem Bo.start (h : Rz W w rb hb p g bd n m [] (fun _ => False)) : Bo W (w.alloc (.cells #[.slice none 0 0] 34)) rb hb p g bd n m [] w.heap.size (.slice none 0 0) (fun _ => False) := by
  have hb := h.bel
  refine ⟨h.own (F := fun _ => False) (Fr.of_below (below_alloc1 w _)) (fun _ q => q.elim) (fun k hk => ?_), ⟨heap_alloc_new _ _, grow_nil _ _ _ _ _, hb.size⟩, fun k hk => hk.elim⟩
  rcases hk with (e | e) | e
  · exact ⟨Or.inr (by omega), by simp; omega⟩
  · simp [Value.ownBlock] at e
  · exact e.elim
end
end Go.Proofs.YtkjioabhdglkpaaGreat
end

section
namespace Go.Proofs.YtkjioabhdglkpaaGreat
open Go.RowKit

open Classical in
def delX (rs : List Ro) (i : Int) : Int := if i ∈ idsR rs then 0 else 60
open Classical in
def delS (rs : List Ro) (i : Int) : List Ro := if i ∈ idsR rs then delRo rs i.toNat else rs
theorem DelR.det {rs rs' : List Ro} {i X : Int} (h : DelR rs i X rs') : X = delX rs i ∧ rs' = delS rs i := by
  rcases h.out with ⟨rfl, hx, rfl⟩ | ⟨rfl, hx, rfl⟩
  · exact ⟨by unfold delX; rw [if_neg hx], by unfold delS; rw [if_neg hx]⟩
  · exact ⟨by unfold delX; rw [if_pos hx], by unfold delS; rw [if_pos hx]⟩
theorem delR_of (rs : List Ro) (i : Int) : DelR rs i (delX rs i) (delS rs i) := by
  by_cases hx : i ∈ idsR rs
  · exact ⟨Or.inr ⟨by unfold delX; rw [if_pos hx], hx, by unfold delS; rw [if_pos hx]⟩⟩
  · exact ⟨Or.inl ⟨by unfold delX; rw [if_neg hx], hx, by unfold delS; rw [if_neg hx]⟩⟩

section
variable {W w w' : World} {rb hb p g bd n m : Nat} {rs : List Ro} {q : Nat} {v : Value} {E : Nat → Prop} {G : Nat → Prop}
theorem rodel_det (h : Rz W w rb hb p g bd n m rs G) (hbd : bd ≤ 5000000) (hm : 2 ≤ m) {i : Int} (hi : i64B i) :
    Calls Tryz.prog 15 #[.pointer (some ⟨rb, 0, none⟩), .int .i64 i] w fun e w' => e = .returned (.int .i64 (delX rs i)) ∧ Rz' W w w' rb hb p g (bd + 108) n m (delS rs i) G := by
  refine (rodel_at h hbd hm hi).mono ?_
  rintro e w' ⟨X, rs', rfl, a, b⟩
  obtain ⟨rfl, rfl⟩ := b.det
  exact ⟨rfl, a⟩
/-- Program first. -/
theorem Bo.del1 (h : Bo W w rb hb p g bd n m rs q v E) (hbd : bd ≤ 5000000) (hm : 2 ≤ m) (hlen : rs.length ≤ 4000) {i : Int} (hi : i64B i) :
    Calls Tryz.prog 15 #[.pointer (some ⟨rb, 0, none⟩), .int .i64 i] w fun e w1 => e = .returned (.int .i64 (delX rs i)) ∧ Keep E w w1 ∧ ∀ w2, Below w1.heap.size w1 w2 →
      Calls Tryz.prog 16 #[.pointer (some ⟨q, 0, none⟩), .int .i64 i] w2 fun e w' => e = .returned (.int .i64 (delX rs i)) ∧ (∃ v', Bo W w' rb hb p g (bd + 108) n m (delS rs i) q v' E) ∧ Keep E w w' := by
  refine (rodel_det h.rz hbd hm hi).mono ?_
  rintro e w1 ⟨rfl, t⟩
  have k1 : Keep E w w1 := t.keep.less (fun k z => Or.inr z)
  refine ⟨rfl, k1, fun w2 b => ?_⟩
  have z2 := t.rz.below b
  have r2 := (h.mid t).below b
  refine (rddel_at r2 z2.bel.size h.rz.rise hlen (delR_of rs i)).mono ?_
  rintro e w3 ⟨rfl, t3⟩
  obtain ⟨a, k3⟩ := z2.met h.ap t3
  exact ⟨rfl, a, (k1.trans (fun k hk => b.block k (t.rz.lt (Or.inr hk)))).trans k3⟩
end
end Go.Proofs.YtkjioabhdglkpaaGreat
end

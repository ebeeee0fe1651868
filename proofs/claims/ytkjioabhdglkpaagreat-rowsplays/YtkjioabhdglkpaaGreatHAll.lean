/- A heap that is made, and wakes; what nobody made. -/
import Derived.Test.YtkjioabhdglkpaaGreatPMath
import Derived.Test.YtkjioabhdglkpaaGreatDNew
import Derived.Test.YtkjioabhdglkpaaGreatQReadsMath
import Derived.Lib.ConvBytes
import Derived.BigQuiet
import Derived.Test.YtkjioabhdglkpaaGreatPAll

section
namespace Go.Proofs.YtkjioabhdglkpaaGreat
open Go.RowKit

def byteAt (M : ByteArray) (k : Nat) : Nat := match M.data.toList[k]? with | some b => b.toNat | none => 0
/-- What the map says of a page. -/
def bit (M : ByteArray) (i : Nat) : Bool := (byteAt M (i / 8)).testBit (i % 8)
/-- A byte with a bit as it is to be. -/
def setN (c e : Nat) (r : Bool) : Nat := if r then (c &&& (255 - 2 ^ e)) ||| 2 ^ e else c &&& (255 - 2 ^ e)
/-- The map with a bit as it is to be. -/
def mkB (M : ByteArray) (i : Nat) (r : Bool) : ByteArray := ba (M.data.toList.set (i / 8) (UInt8.ofNat (setN (byteAt M (i / 8)) (i % 8) r)))

theorem byteAt_lt (M : ByteArray) (k : Nat) : byteAt M k < 256 := by
  unfold byteAt
  split
  · rename_i b _; exact b.toNat_lt
  · decide
theorem setN_lt : ∀ c, c < 256 → ∀ e, e < 8 → ∀ r, setN c e r < 256 := by decide +kernel
theorem setN_bit : ∀ c, c < 256 → ∀ e, e < 8 → ∀ j, j < 8 → ∀ r, (setN c e r).testBit j = if j = e then r else c.testBit j := by decide +kernel
theorem and_bit : ∀ c : Nat, c < 256 → ∀ e, e < 8 → (bits .and .u8 (c : Int) ((2 ^ e : Nat) : Int) != 0) = c.testBit e := by decide +kernel
theorem andNot_bit : ∀ c : Nat, c < 256 → ∀ e, e < 8 → bits .andNot .u8 (c : Int) ((2 ^ e : Nat) : Int) = ((setN c e false : Nat) : Int) := by decide +kernel
theorem or_bit : ∀ c : Nat, c < 256 → ∀ e, e < 8 → bits .or .u8 ((setN c e false : Nat) : Int) ((2 ^ e : Nat) : Int) = ((setN c e true : Nat) : Int) := by decide +kernel

theorem mk_size (M : ByteArray) (i : Nat) (r : Bool) : (mkB M i r).size = M.size := by
  show (M.data.toList.set _ _).toArray.size = M.data.size
  simp
theorem byteAt_mk {M : ByteArray} (i : Nat) (r : Bool) (hi : i / 8 < M.size) (k : Nat) : byteAt (mkB M i r) k = if k = i / 8 then setN (byteAt M (i / 8)) (i % 8) r else byteAt M k := by
  have hl : M.data.toList.length = M.size := by simp
  have e : (mkB M i r).data.toList = M.data.toList.set (i / 8) (UInt8.ofNat (setN (byteAt M (i / 8)) (i % 8) r)) := by simp [mkB, ba]
  conv => lhs; unfold byteAt
  rw [e]
  by_cases hk : k = i / 8
  · subst hk
    have : i / 8 < M.data.toList.length := by omega
    rw [if_pos rfl, List.getElem?_set_self this]
    show (UInt8.ofNat _).toNat = _
    rw [UInt8.toNat_ofNat']
    exact Nat.mod_eq_of_lt (setN_lt _ (byteAt_lt _ _) _ (Nat.mod_lt _ (by decide)) _)
  · rw [if_neg hk, List.getElem?_set_ne (fun e => hk e.symm)]
    rfl
theorem bit_mk {M : ByteArray} (i : Nat) (r : Bool) (hi : i / 8 < M.size) (j : Nat) : bit (mkB M i r) j = if j = i then r else bit M j := by
  unfold bit
  rw [byteAt_mk i r hi]
  by_cases hk : j / 8 = i / 8
  · rw [if_pos hk, setN_bit _ (byteAt_lt _ _) _ (Nat.mod_lt _ (by decide)) _ (Nat.mod_lt _ (by decide))]
    by_cases e : j = i
    · rw [if_pos (by rw [e]), if_pos e]
    · rw [if_neg (by omega), if_neg e, hk]
  · rw [if_neg hk, if_neg (by rintro rfl; exact hk rfl)]

/-- Pages of rows. -/
abbrev Hp := Nat → List Sl
def updH (H : Hp) (i : Nat) (l : List Sl) : Hp := fun j => if j = i then l else H j
/-- The pages from 1 on. -/
def pgsN (n : Nat) : List Nat := List.range' 1 (n - 1)
/-- The lowest page that takes a row. -/
def lowP (n : Nat) (H : Hp) (row : ByteArray) : Option Nat := (pgsN n).find? (fun i => insE (H i) row == 0)

def insHK (n : Nat) (H : Hp) (row : ByteArray) : Int := if 400 < row.size then 0 else match lowP n H row with | some i => 128 * (i : Int) + (first (H i) : Int) | none => 0
def insHX (n : Nat) (H : Hp) (row : ByteArray) : Int := if 400 < row.size then 2 else match lowP n H row with | some _ => 0 | none => 50
def insHH (n : Nat) (H : Hp) (row : ByteArray) : Hp := if 400 < row.size then H else match lowP n H row with | some i => updH H i (insL (H i) row) | none => H

/-- The page of a place, and its slot. -/
def pgOf (n : Nat) (H : Hp) (k : Int) : List Sl := if 128 ≤ k ∧ k / 128 < (n : Int) then H (k / 128).toNat else []
def getHS (n : Nat) (H : Hp) (k : Int) : ByteArray := rowOf (rowAt (pgOf n H k) (k.tmod 128))
def delHX (n : Nat) (H : Hp) (k : Int) : Int := delE (pgOf n H k) (k.tmod 128)
def putHX (n : Nat) (H : Hp) (k : Int) (row : ByteArray) : Int := putE (pgOf n H k) (k.tmod 128) row
def delHH (n : Nat) (H : Hp) (k : Int) : Hp := if delHX n H k = 0 then updH H (k / 128).toNat (delL (pgOf n H k) (k.tmod 128)) else H
def putHH (n : Nat) (H : Hp) (k : Int) (row : ByteArray) : Hp := if putHX n H k row = 0 then updH H (k / 128).toNat (putL (pgOf n H k) (k.tmod 128) row) else H
def placesN (n : Nat) (H : Hp) : List Int := (pgsN n).flatMap (fun i => (slotsF (H i) 0).map (fun s => 128 * (i : Int) + s))
def pagesN (n : Nat) (H : Hp) : List Int := ((pgsN n).filter (fun i => !(H i).isEmpty)).map (fun i : Nat => (i : Int))

theorem insE_nil (row : ByteArray) (h : row.size ≤ 400) : insE [] row = 0 := by
  unfold insE
  have h5 : room (withF []) = 504 := by decide
  rw [if_neg (show ¬ 400 < row.size by omega), if_neg (by omega)]
theorem insE_few (l : List Sl) (row : ByteArray) (h : row.size ≤ 400) : insE l row = 0 ∨ insE l row = 50 := by
  unfold insE
  rw [if_neg (by omega)]
  split
  · exact Or.inr rfl
  · exact Or.inl rfl
theorem mem_pgs {n i : Nat} : i ∈ pgsN n ↔ 1 ≤ i ∧ i < n := by
  unfold pgsN
  rw [List.mem_range'_1]
  omega
theorem pgsN_succ (n : Nat) (hn : 1 ≤ n) : pgsN (n + 1) = pgsN n ++ [n] := by
  unfold pgsN
  rw [show n + 1 - 1 = (n - 1) + 1 by omega, List.range'_concat]
  congr 2
  omega
theorem pgsN_one : pgsN 1 = [] := rfl
theorem low_some {n : Nat} {H : Hp} {row : ByteArray} {i : Nat} (h1 : 1 ≤ i) (h2 : i < n) (h3 : insE (H i) row = 0) (h4 : ∀ j, 1 ≤ j → j < i → insE (H j) row ≠ 0) : lowP n H row = some i := by
  unfold lowP pgsN
  rw [List.find?_eq_some_iff_getElem]
  refine ⟨by simpa using h3, i - 1, by simp; omega, by simp; omega, fun j hj => ?_⟩
  simp only [List.getElem_range', Nat.one_mul]
  have := h4 (1 + j) (by omega) (by omega)
  simpa using this
theorem low_none {n : Nat} {H : Hp} {row : ByteArray} (h : ∀ j, 1 ≤ j → j < n → insE (H j) row ≠ 0) : lowP n H row = none := by
  unfold lowP
  rw [List.find?_eq_none]
  intro i hi
  obtain ⟨h1, h2⟩ := mem_pgs.1 hi
  simpa using h i h1 h2
theorem low_of {n : Nat} {H : Hp} {row : ByteArray} {i : Nat} (h : lowP n H row = some i) : 1 ≤ i ∧ i < n ∧ insE (H i) row = 0 ∧ ∀ j, 1 ≤ j → j < i → insE (H j) row ≠ 0 := by
  have h0 := h
  unfold lowP at h
  have hm := mem_pgs.1 (List.mem_of_find?_eq_some h)
  have hz := List.find?_some h
  refine ⟨hm.1, hm.2, by simpa using hz, fun j h1 h2 e => ?_⟩
  -- the least one that takes it is not above j
  have : ∀ m, ∀ j, j = m → 1 ≤ j → j < i → insE (H j) row = 0 → False := by
    intro m
    induction m using Nat.strongRecOn with
    | ind m ih =>
      rintro j rfl h1 h2 e
      by_cases q : ∃ k, 1 ≤ k ∧ k < j ∧ insE (H k) row = 0
      · obtain ⟨k, a, b, c⟩ := q
        exact ih k b k rfl a (by omega) c
      · have := low_some (n := n) (H := H) (row := row) h1 (by omega) e (fun k a b c => q ⟨k, a, b, c⟩)
        rw [h0] at this
        injection this with this
        omega
  exact this j j rfl h1 h2 e

theorem updH_same (H : Hp) (i : Nat) (l : List Sl) : updH H i l i = l := if_pos rfl
theorem updH_ne (H : Hp) {i j : Nat} (l : List Sl) (h : j ≠ i) : updH H i l j = H j := if_neg h
theorem updH_self (H : Hp) (i : Nat) : updH H i (H i) = H := by
  funext j
  unfold updH
  split
  · rename_i e; rw [e]
  · rfl

theorem slotsF_nil {l : List Sl} (h : trimL l = l) (i : Nat) : (slotsF l i).length = 0 ↔ l = [] := by
  rcases trim_last l h with rfl | ⟨a, r, rfl⟩
  · simp [slotsF]
  · simp [slotsF_append, slotsF]

/-- What the pages read as, and the rows that are in them. -/
structure Vok (n : Nat) (V : Nat → ByteArray) (H : Hp) : Prop where
  msz : (V 0).size = 512
  map : ∀ i, i < 4096 → bit (V 0) i = !(H i).isEmpty
  pg : ∀ i, 1 ≤ i → i < n → V i = pg (H i)
  fine : ∀ i, Fine (H i)
  out : ∀ i, (i = 0 ∨ n ≤ i) → H i = []
  n : 1 ≤ n ∧ n ≤ 1000

theorem pg_blk : pg [] = blk 0 := by
  unfold pg pgL headL bodyL blk
  congr 1
theorem byteAt_blk (k : Nat) : byteAt (blk 0) k = 0 := by
  unfold byteAt
  have e : (blk 0).data.toList = List.replicate 512 0 := rfl
  rw [e, List.getElem?_replicate]
  split
  · rename_i b hb
    split at hb
    · injection hb with hb; subst hb; rfl
    · cases hb
  · rfl
theorem vok_new (n : Nat) (h1 : 1 ≤ n) (h2 : n ≤ 1000) : Vok n (fun _ => blk 0) (fun _ => []) :=
  ⟨blk_size 0, fun i _ => by unfold bit; rw [byteAt_blk]; simp, fun i _ _ => pg_blk.symm, fun _ => fine_nil, fun _ _ => rfl, ⟨h1, h2⟩⟩

/-- Page i is changed, and its bit where that is wanted. -/
theorem Vok.set {n : Nat} {V : Nat → ByteArray} {H : Hp} (h : Vok n V H) {i : Nat} (h1 : 1 ≤ i) (h2 : i < n) {l : List Sl} (hl : Fine l) :
    (bit (V 0) i = (!l.isEmpty) → Vok n (upd V i (Go.Proofs.YtkjioabhdglkpaaGreat.pg l)) (updH H i l)) ∧ Vok n (upd (upd V i (Go.Proofs.YtkjioabhdglkpaaGreat.pg l)) 0 (mkB (V 0) i (!l.isEmpty))) (updH H i l) := by
  have hn := h.n.2
  have fine : ∀ j, Fine (updH H i l j) := fun j => by
    unfold updH
    split
    · exact hl
    · exact h.fine j
  have out : ∀ j, (j = 0 ∨ n ≤ j) → updH H i l j = [] := fun j hj => by rw [updH_ne H l (by omega)]; exact h.out j hj
  have pgs : ∀ j, 1 ≤ j → j < n → upd V i (Go.Proofs.YtkjioabhdglkpaaGreat.pg l) j = Go.Proofs.YtkjioabhdglkpaaGreat.pg (updH H i l j) := fun j a b => by
    unfold upd updH
    by_cases e : j = i
    · rw [if_pos e, if_pos e]
    · rw [if_neg e, if_neg e]; exact h.pg j a b
  have v0 : upd V i (Go.Proofs.YtkjioabhdglkpaaGreat.pg l) 0 = V 0 := by unfold upd; rw [if_neg (by omega)]
  refine ⟨fun he => ⟨by rw [v0]; exact h.msz, fun j hj => ?_, pgs, fine, out, h.n⟩, ⟨?_, fun j hj => ?_, fun j a b => ?_, fine, out, h.n⟩⟩
  · rw [v0]
    by_cases e : j = i
    · rw [e, updH_same]; exact he
    · rw [updH_ne H l e]; exact h.map j hj
  · show (upd _ 0 _ 0).size = 512
    unfold upd
    rw [if_pos rfl, mk_size]
    exact h.msz
  · have e0 : upd (upd V i (Go.Proofs.YtkjioabhdglkpaaGreat.pg l)) 0 (mkB (V 0) i (!l.isEmpty)) 0 = mkB (V 0) i (!l.isEmpty) := by unfold upd; rw [if_pos rfl]
    rw [e0, bit_mk i _ (by have := h.msz; omega)]
    by_cases e : j = i
    · rw [if_pos e, e, updH_same]
    · rw [if_neg e, updH_ne H l e]; exact h.map j hj
  · rw [← pgs j a b]
    exact if_neg (by omega)

end Go.Proofs.YtkjioabhdglkpaaGreat
end

section
namespace Go.Proofs.YtkjioabhdglkpaaGreat
open Go.RowKit

/-- Each page, in a frame or on the device, reads as V has it; just the pages of A are pinned, once each. -/
structure Hv (S : St) (V : Nat → ByteArray) (A : List Nat) : Prop where
  up : S.D.left < 0
  v : ∀ f ∈ S.l, f.s = V f.pg
  p : ∀ f ∈ S.l, f.pins = if f.pg ∈ A then 1 else 0
  c : ∀ f ∈ S.l, f.dirty = false → S.D.seen f.pg = f.s
  a : ∀ j, j < S.D.n → (∀ f ∈ S.l, f.pg ≠ j) → S.D.seen j = V j
  h : ∀ j ∈ A, ∃ f ∈ S.l, f.pg = j

/-- What no call turns; no write is refused where none was to be. -/
structure Kpt (S S' : St) : Prop where
  n : S'.n = S.n
  dn : S'.D.n = S.D.n
  nx : S.D.next ≤ 0 → S'.D.next ≤ 0

theorem Kpt.refl (S : St) : Kpt S S := ⟨rfl, rfl, id⟩
theorem Kpt.trans {S T U : St} (h : Kpt S T) (k : Kpt T U) : Kpt S U := ⟨k.n.trans h.n, k.dn.trans h.dn, fun q => k.nx (h.nx q)⟩

theorem nodup_le : ∀ (l A : List Nat), l.Nodup → (∀ x ∈ l, x ∈ A) → l.length ≤ A.length := by
  intro l
  induction l with
  | nil => intro A _ _; exact Nat.zero_le _
  | cons x l ih =>
    intro A hn hA
    have hx := hA x (by simp)
    have h1 := List.nodup_cons.1 hn
    have h2 := ih (A.erase x) h1.2 (fun y hy => by
      have hne : y ≠ x := fun e => h1.1 (e ▸ hy)
      exact (List.mem_erase_of_ne hne).2 (hA y (by simp [hy])))
    rw [List.length_erase_of_mem hx] at h2
    have := List.length_pos_of_mem hx
    simp
    omega

theorem uAt_nil (l : List Fm) : ∀ k, uAt l k = [] → ∀ f ∈ l, f.pins ≠ 0 := by
  induction l with
  | nil => intro k _ f hf; cases hf
  | cons g l ih =>
    intro k h f hf
    unfold uAt at h
    split at h
    · cases h
    · rename_i hp
      rcases List.mem_cons.1 hf with rfl | q
      · exact hp
      · exact ih _ h f q

section
variable {b : Nat} {S : St} {V : Nat → ByteArray} {A : List Nat}

/-- With fewer pinned than frames, one may be given up. -/
theorem Hv.room (h : Hv S V A) (ok : OkS b S) (hA : A.length < S.n) (hl : S.l.length = S.n) : ∃ i r f, uAt S.l 0 = i :: r ∧ S.l[i]? = some f ∧ f.pins = 0 := by
  cases hu : uAt S.l 0 with
  | nil =>
    have h0 := uAt_nil S.l 0 hu
    have := nodup_le (S.l.map (·.pg)) A ok.uniq (fun x hx => by
      obtain ⟨f, hf, rfl⟩ := List.mem_map.1 hx
      have h1 := h0 f hf
      rw [h.p f hf] at h1
      by_cases e : f.pg ∈ A
      · exact e
      · rw [if_neg e] at h1; exact absurd rfl h1)
    rw [List.length_map] at this
    omega
  | cons i r =>
    obtain ⟨_, f, h2, h3⟩ := uAt_get S.l 0 0 i (by rw [hu]; rfl)
    exact ⟨i, r, f, rfl, h2, h3⟩

/-- What is written to the device. -/
theorem wr_up {D : DS} (hl : D.left < 0) (f : Fm) : (wrE D f = 0 ∧ (wrD D f).left < 0 ∧ (D.next ≤ 0 → (wrD D f).next ≤ 0) ∧ ∀ j, (wrD D f).seen j = if f.dirty = true ∧ j = f.pg then f.s else D.seen j) ∨
    (wrE D f = 42 ∧ D.next = 1 ∧ wrD D f = { D with next := 0 }) := by
  unfold wrE wrD
  by_cases hd : f.dirty = true
  · have h0 : ¬ D.left = 0 := by omega
    rw [if_pos hd, if_pos hd, if_neg h0, if_neg h0]
    by_cases hn : D.next = 1
    · rw [if_pos hn, if_pos hn]
      exact Or.inr ⟨rfl, hn, rfl⟩
    · rw [if_neg hn, if_neg hn]
      refine Or.inl ⟨rfl, by show D.left - 1 < 0; omega, fun q => by show D.next - 1 ≤ 0; omega, fun j => ?_⟩
      show upd D.seen f.pg f.s j = _
      unfold upd
      by_cases e : j = f.pg
      · rw [if_pos e, if_pos ⟨hd, e⟩]
      · rw [if_neg e, if_neg (fun q => e q.2)]
  · rw [if_neg hd, if_neg hd]
    exact Or.inl ⟨rfl, hl, id, fun j => by rw [if_neg (fun q => hd q.1)]⟩

theorem Hv.next (h : Hv S V A) (z : Int) : Hv { S with D := { S.D with next := z } } V A := ⟨h.up, h.v, h.p, h.c, h.a, h.h⟩

theorem Hv.give (h : Hv S V A) (ok : OkS b S) {i : Nat} {f : Fm} (hi : S.l[i]? = some f) (hp : f.pins = 0) :
    Kpt S (giveS S i f).2 ∧ Hv (giveS S i f).2 V A ∧ (((giveS S i f).1 = 0 ∧ (giveS S i f).2.l = S.l.eraseIdx i) ∨ ((giveS S i f).1 = 42 ∧ S.D.next = 1 ∧ (giveS S i f).2.l = S.l)) := by
  have hno := erase_no hi ok.uniq
  have hm := List.mem_of_getElem? hi
  have hfA : f.pg ∉ A := fun q => by rw [h.p f hm, if_pos q] at hp; cases hp
  unfold giveS
  rcases wr_up h.up f with ⟨e, u1, u2, hseen⟩ | ⟨e, u1, u2⟩
  · rw [if_pos e]
    refine ⟨⟨rfl, wrD_n _ _, u2⟩, ⟨u1, fun g hg => h.v g (mem_erase hg), fun g hg => h.p g (mem_erase hg), fun g hg hd => ?_, fun j hj hn => ?_, fun j hj => ?_⟩, Or.inl ⟨rfl, rfl⟩⟩
    · show (wrD S.D f).seen g.pg = g.s
      rw [hseen, if_neg (fun q => hno g hg q.2)]
      exact h.c g (mem_erase hg) hd
    · show (wrD S.D f).seen j = V j
      rw [hseen]
      by_cases e : j = f.pg
      · by_cases hd : f.dirty = true
        · rw [if_pos ⟨hd, e⟩, e]
          exact h.v f hm
        · rw [if_neg (fun q => hd q.1), e, h.c f hm (by simpa using hd)]
          exact h.v f hm
      · rw [if_neg (fun q => e q.2)]
        refine h.a j (by rw [← wrD_n S.D f]; exact hj) (fun g hg e2 => ?_)
        rcases mem_split hi hg with q | q
        · exact hn g q e2
        · rw [q] at e2; exact e e2.symm
    · obtain ⟨g, hg, rfl⟩ := h.h j hj
      rcases mem_split hi hg with q | q
      · exact ⟨g, q, rfl⟩
      · exact absurd (q ▸ hj) hfA
  · rw [if_neg (by rw [e]; decide), u2]
    exact ⟨⟨rfl, rfl, fun q => Int.le_refl _⟩, h.next 0, Or.inr ⟨e, u1, rfl⟩⟩

theorem Hv.take (h : Hv S V A) (ok : OkS b S) (hA : A.length < S.n) :
    Kpt S (takeS S).2 ∧ Hv (takeS S).2 V A ∧ (∀ f ∈ (takeS S).2.l, f ∈ S.l) ∧ ((takeS S).1 = 0 ∨ ((takeS S).1 = 42 ∧ S.D.next = 1)) := by
  unfold takeS
  by_cases hc : S.l.length = S.n
  · rw [if_pos hc]
    obtain ⟨i, r, f, hu, hi, hp⟩ := h.room ok hA hc
    rw [hu]
    simp only
    rw [hi]
    simp only
    obtain ⟨k, v, q⟩ := h.give ok hi hp
    rcases q with ⟨q1, q2⟩ | ⟨q1, q2, q3⟩
    · exact ⟨k, v, fun g hg => by rw [q2] at hg; exact mem_erase hg, Or.inl q1⟩
    · exact ⟨k, v, fun g hg => by rw [q3] at hg; exact hg, Or.inr ⟨q1, q2⟩⟩
  · rw [if_neg hc]
    exact ⟨Kpt.refl S, h, fun g hg => hg, Or.inl rfl⟩

/-- An element takes the place of one of its page. -/
theorem Hv.put (h : Hv S V A) {l : List Fm} {g : Fm} {r : Nat} (hA : ∀ f ∈ l, f ∈ S.l ∧ f.pg ≠ g.pg) (hB : ∀ f ∈ S.l, f ∈ l ∨ f.pg = g.pg) (V' : Nat → ByteArray) (hV : ∀ j, j ≠ g.pg → V' j = V j) (A' : List Nat) (hA' : ∀ j, j ≠ g.pg → (j ∈ A' ↔ j ∈ A)) (hg : g.s = V' g.pg) (hp : g.pins = if g.pg ∈ A' then 1 else 0) (hc : g.dirty = false → S.D.seen g.pg = g.s) : Hv { S with rd := r, l := l ++ [g] } V' A' := by
  refine ⟨h.up, fun f hf => ?_, fun f hf => ?_, fun f hf hd => ?_, fun j hj hn => ?_, fun j hj => ?_⟩
  · rcases List.mem_append.1 hf with q | q
    · rw [hV _ (hA f q).2]; exact h.v f (hA f q).1
    · rw [List.mem_singleton] at q
      rw [q]; exact hg
  · rcases List.mem_append.1 hf with q | q
    · rw [h.p f (hA f q).1]
      by_cases e : f.pg ∈ A
      · rw [if_pos e, if_pos ((hA' _ (hA f q).2).2 e)]
      · rw [if_neg e, if_neg (fun z => e ((hA' _ (hA f q).2).1 z))]
    · rw [List.mem_singleton] at q
      rw [q]; exact hp
  · rcases List.mem_append.1 hf with q | q
    · exact h.c f (hA f q).1 hd
    · rw [List.mem_singleton] at q
      rw [q] at hd ⊢
      exact hc hd
  · have hjg : j ≠ g.pg := fun e => hn g (by simp) e.symm
    rw [hV j hjg]
    refine h.a j hj (fun f hf e => ?_)
    rcases hB f hf with q | q
    · exact hn f (List.mem_append_left _ q) e
    · exact hjg (e.symm.trans q)
  · by_cases e : j = g.pg
    · exact ⟨g, by simp, e.symm⟩
    · obtain ⟨f, hf, rfl⟩ := h.h j ((hA' j e).1 hj)
      rcases hB f hf with q | q
      · exact ⟨f, List.mem_append_left _ q, rfl⟩
      · exact absurd q e

theorem pin_out (S : St) (k : Int) (h : ¬ (0 ≤ k ∧ k < (S.D.n : Int))) : pinS S k = ((⟨#[]⟩, 40), S) := by
  unfold pinS
  rw [if_neg h]

theorem Hv.pin (h : Hv S V A) (ok : OkS b S) (hl : A.length < S.n) (k : Nat) (hk : k < S.D.n) (hkA : k ∉ A) :
    Kpt S (pinS S (k : Int)).2 ∧ (((pinS S (k : Int)).1 = (V k, 0) ∧ Hv (pinS S (k : Int)).2 V (k :: A)) ∨ ((pinS S (k : Int)).1 = (⟨#[]⟩, 42) ∧ S.D.next = 1 ∧ Hv (pinS S (k : Int)).2 V A)) := by
  have hr : 0 ≤ (k : Int) ∧ (k : Int) < (S.D.n : Int) := ⟨by omega, by omega⟩
  have hcons : ∀ g : Fm, g.pg = k → ∀ j, j ≠ g.pg → (j ∈ k :: A ↔ j ∈ A) := fun g hg j hj => by
    rw [List.mem_cons]
    exact ⟨fun q => q.resolve_left (fun e => hj (e.trans hg.symm)), Or.inr⟩
  cases hx : idx S.l (k : Int) with
  | some i =>
    obtain ⟨f, hi, hfa, _⟩ := idx_some hx
    have hpg : f.pg = k := by omega
    have hm := List.mem_of_getElem? hi
    have e : pinS S (k : Int) = ((f.s, 0), { S with l := S.l.eraseIdx i ++ [{ f with pins := f.pins + 1 }] }) := by
      unfold pinS
      rw [if_pos hr, hx]
      simp only
      rw [hi]
    rw [e]
    refine ⟨⟨rfl, rfl, id⟩, Or.inl ⟨by rw [h.v f hm, hpg], ?_⟩⟩
    refine h.put (g := { f with pins := f.pins + 1 }) (r := S.rd) (fun g hg => ⟨mem_erase hg, erase_no hi ok.uniq g hg⟩) (fun g hg => (mem_split hi hg).imp id (fun q => by rw [q])) V (fun _ _ => rfl) (k :: A) (hcons _ hpg) (h.v f hm) ?_ (h.c f hm)
    show f.pins + 1 = if f.pg ∈ k :: A then 1 else 0
    rw [h.p f hm, hpg, if_neg hkA, if_pos (by simp)]
  | none =>
    have hno : ∀ f ∈ S.l, f.pg ≠ k := fun f hf e => by
      obtain ⟨j, hj⟩ := List.getElem?_of_mem hf
      exact idx_none hx j f hj (by omega)
    obtain ⟨t0, t1, t2, t3⟩ := h.take ok hl
    have e : pinS S (k : Int) = if (takeS S).1 = 0 then readS (takeS S).2 k else ((⟨#[]⟩, (takeS S).1), (takeS S).2) := by
      unfold pinS
      rw [if_pos hr, hx]
      rfl
    rw [e]
    rcases t3 with t3 | ⟨t3, t4⟩
    · rw [if_pos t3]
      have e2 : readS (takeS S).2 k = (((takeS S).2.D.seen k, 0), { (takeS S).2 with rd := (takeS S).2.rd + 1, l := (takeS S).2.l ++ [⟨k, (takeS S).2.D.seen k, 1, false⟩] }) := by
        unfold readS
        rw [if_neg (by have := t1.up; omega)]
      have hs : (takeS S).2.D.seen k = V k := t1.a k (by rw [t0.dn]; exact hk) (fun f hf => hno f (t2 f hf))
      rw [e2]
      refine ⟨⟨t0.n, t0.dn, t0.nx⟩, Or.inl ⟨by rw [hs], ?_⟩⟩
      refine t1.put (g := ⟨k, (takeS S).2.D.seen k, 1, false⟩) (r := (takeS S).2.rd + 1) (fun g hg => ⟨hg, hno g (t2 g hg)⟩) (fun g hg => Or.inl hg) V (fun _ _ => rfl) (k :: A) (hcons _ rfl) hs ?_ (fun _ => rfl)
      show 1 = if k ∈ k :: A then 1 else 0
      rw [if_pos (by simp)]
    · rw [if_neg (by rw [t3]; decide)]
      exact ⟨t0, Or.inr ⟨by rw [t3], t4, t1⟩⟩

theorem Hv.idx (h : Hv S V A) {k : Nat} (hk : k ∈ A) : ∃ i f, idx S.l (k : Int) = some i ∧ S.l[i]? = some f ∧ f.pg = k ∧ f.pins = 1 := by
  obtain ⟨f, hf, e⟩ := h.h k hk
  obtain ⟨i, g, h1, h2, h3⟩ := idx_of_mem (m := S.l) (l := S.l) (a := (k : Int)) ⟨f, hf, by rw [e]⟩ rfl
  have hg : g.pg = k := by omega
  exact ⟨i, g, h1, h2, hg, by rw [h.p g (List.mem_of_getElem? h2), hg, if_pos hk]⟩

theorem Hv.unpin (h : Hv S V A) (ok : OkS b S) {k : Nat} (hk : k ∈ A) (A' : List Nat) (hA' : ∀ j, j ≠ k → (j ∈ A' ↔ j ∈ A)) (hkA : k ∉ A') :
    (unpinS S (k : Int)).1 = 0 ∧ Kpt S (unpinS S (k : Int)).2 ∧ Hv (unpinS S (k : Int)).2 V A' := by
  obtain ⟨i, f, h1, h2, h3, h4⟩ := h.idx hk
  have hm := List.mem_of_getElem? h2
  have e : unpinS S (k : Int) = (0, { S with l := S.l.eraseIdx i ++ [{ f with pins := f.pins - 1 }] }) := by
    unfold unpinS
    rw [h1]
    simp only
    rw [h2]
    simp only
    rw [if_neg (by omega)]
  rw [e]
  refine ⟨rfl, ⟨rfl, rfl, id⟩, ?_⟩
  refine h.put (g := { f with pins := f.pins - 1 }) (r := S.rd) (fun g hg => ⟨mem_erase hg, erase_no h2 ok.uniq g hg⟩) (fun g hg => (mem_split h2 hg).imp id (fun q => by rw [q])) V (fun _ _ => rfl) A' (fun j hj => hA' j (by rw [← h3]; exact hj)) (h.v f hm) ?_ (h.c f hm)
  show f.pins - 1 = if f.pg ∈ A' then 1 else 0
  rw [h4, h3, if_neg hkA]

theorem Hv.set (h : Hv S V A) (ok : OkS b S) {k : Nat} (hk : k ∈ A) (s : ByteArray) (hs : s.size = 512) :
    (setS S (k : Int) s).1 = 0 ∧ Kpt S (setS S (k : Int) s).2 ∧ Hv (setS S (k : Int) s).2 (upd V k s) A := by
  obtain ⟨i, f, h1, h2, h3, h4⟩ := h.idx hk
  have hm := List.mem_of_getElem? h2
  have e : setS S (k : Int) s = (0, { S with l := S.l.eraseIdx i ++ [{ f with s := s, dirty := true }] }) := by
    unfold setS
    rw [h1]
    simp only
    rw [h2]
    simp only
    rw [if_neg (by omega), if_neg (fun q => q hs)]
  rw [e]
  refine ⟨rfl, ⟨rfl, rfl, id⟩, ?_⟩
  refine h.put (g := { f with s := s, dirty := true }) (r := S.rd) (fun g hg => ⟨mem_erase hg, erase_no h2 ok.uniq g hg⟩) (fun g hg => (mem_split h2 hg).imp id (fun q => by rw [q])) (upd V k s) (fun j hj => ?_) A (fun j hj => Iff.rfl) ?_ ?_ (fun q => by cases q)
  · unfold upd
    rw [if_neg (by rw [← h3]; exact hj)]
  · show s = upd V k s f.pg
    unfold upd
    rw [if_pos h3]
  · show f.pins = if f.pg ∈ A then 1 else 0
    rw [h4, h3, if_pos hk]

theorem Hv.evict (h : Hv S V A) (ok : OkS b S) (n : Int) : Kpt S (evictS S n).2 ∧ Hv (evictS S n).2 V A := by
  unfold evictS
  split
  · exact ⟨Kpt.refl S, h⟩
  · rename_i i hu
    split
    · exact ⟨Kpt.refl S, h⟩
    · rename_i f hf
      obtain ⟨_, g, h2, h3⟩ := uAt_get S.l 0 _ i hu
      rw [Nat.sub_zero] at h2
      rw [h2] at hf
      injection hf with e
      subst e
      obtain ⟨k, v, _⟩ := h.give ok h2 h3
      exact ⟨k, v⟩

theorem Hv.wrote1 (h : Hv S V A) (ok : OkS b S) (hx : S.D.next ≤ 0) {i : Nat} {f : Fm} (hi : S.l[i]? = some f) : wrE S.D f = 0 ∧ Kpt S (wr1 S i f) ∧ Hv (wr1 S i f) V A ∧ (∀ g ∈ (wr1 S i f).l, g.dirty = true → g ∈ S.l ∧ g.pg ≠ f.pg) := by
  rcases wr_up h.up f with ⟨he, u1, u2, hseen⟩ | ⟨_, u1, _⟩
  · have hF : wrF S.D f = { f with dirty := false } := by unfold wrF; rw [if_pos he]
    have hm := List.mem_of_getElem? hi
    have huniq : ∀ g ∈ S.l, g.pg = f.pg → g = f := fun g hg e => by
      rcases mem_split hi hg with q | q
      · exact absurd e (erase_no hi ok.uniq g q)
      · exact q
    have hlt : i < S.l.length := (List.getElem?_eq_some_iff.1 hi).1
    have hmem : ∀ g ∈ S.l.set i (wrF S.D f), (g ∈ S.l ∧ g.pg ≠ f.pg) ∨ g = { f with dirty := false } := fun g hg => by
      by_cases e : g = { f with dirty := false }
      · exact Or.inr e
      · obtain ⟨j, hj⟩ := List.getElem?_of_mem hg
        rw [List.getElem?_set] at hj
        split at hj
        · rw [hF] at hj
          exact absurd (Option.some.inj hj).symm e
        · rename_i hij
          refine Or.inl ⟨List.mem_of_getElem? hj, fun e2 => hij ?_⟩
          have e3 := huniq g (List.mem_of_getElem? hj) e2
          rw [e3] at hj
          have q1 : (S.l.map (·.pg))[i]? = (S.l.map (·.pg))[j]? := by simp [hi, hj]
          exact (List.getElem?_inj (by simpa using hlt) ok.uniq).1 q1
    have hback : ∀ g ∈ S.l, g.pg ≠ f.pg → g ∈ S.l.set i (wrF S.D f) := fun g hg hne => by
      obtain ⟨m, hmj⟩ := List.getElem?_of_mem hg
      have hmi : i ≠ m := fun z => by
        subst z
        rw [hi] at hmj
        cases hmj
        exact hne rfl
      exact List.mem_of_getElem? (i := m) (by rw [List.getElem?_set, if_neg hmi]; exact hmj)
    have hself : wrF S.D f ∈ S.l.set i (wrF S.D f) := List.mem_of_getElem? (i := i) (by simp [hlt])
    have hfs : (wrD S.D f).seen f.pg = f.s := by
      rw [hseen]
      by_cases hd : f.dirty = true
      · rw [if_pos ⟨hd, rfl⟩]
      · rw [if_neg (fun q => hd q.1)]
        exact h.c f hm (by simpa using hd)
    refine ⟨he, ⟨rfl, wrD_n _ _, u2⟩, ⟨u1, fun g hg => ?_, fun g hg => ?_, fun g hg hd => ?_, fun j hj hn => ?_, fun j hj => ?_⟩, fun g hg hd => ?_⟩
    · rcases hmem g hg with ⟨q, _⟩ | q
      · exact h.v g q
      · rw [q]; exact h.v f hm
    · rcases hmem g hg with ⟨q, _⟩ | q
      · exact h.p g q
      · rw [q]; exact h.p f hm
    · show (wrD S.D f).seen g.pg = g.s
      rcases hmem g hg with ⟨q, q2⟩ | q
      · rw [hseen, if_neg (fun z => q2 z.2)]
        exact h.c g q hd
      · rw [q]; exact hfs
    · show (wrD S.D f).seen j = V j
      have hjf : j ≠ f.pg := fun e => hn (wrF S.D f) hself (by rw [hF]; exact e.symm)
      rw [hseen, if_neg (fun q => hjf q.2)]
      refine h.a j (by rw [← wrD_n S.D f]; exact hj) (fun g hg e => ?_)
      exact hn g (hback g hg (fun z => hjf (e.symm.trans z))) e
    · obtain ⟨g, hg, rfl⟩ := h.h j hj
      by_cases e : g.pg = f.pg
      · exact ⟨wrF S.D f, hself, by rw [hF]; exact e.symm⟩
      · exact ⟨g, hback g hg e, rfl⟩
    · rcases hmem g hg with q | q
      · exact q
      · rw [q] at hd; cases hd
  · omega

theorem Hv.all {V : Nat → ByteArray} {A : List Nat} : ∀ (T : List Int) (b : Nat) (S : St), Hv S V A → OkS b S → S.D.next ≤ 0 → (∀ a ∈ T, ∃ f ∈ S.l, (f.pg : Int) = a) → (wrAll T S).1 = 0 ∧ Kpt S (wrAll T S).2 ∧ Hv (wrAll T S).2 V A ∧ ∀ g ∈ (wrAll T S).2.l, g.dirty = true → g ∈ S.l ∧ (g.pg : Int) ∉ T := by
  intro T
  induction T with
  | nil => intro b S h _ _ _; exact ⟨rfl, Kpt.refl S, h, fun g hg _ => ⟨hg, by simp⟩⟩
  | cons a T ih =>
    intro b S h ok hx hT
    obtain ⟨i, f, h1, h2, h3⟩ := idx_of_mem (l := S.l) (m := S.l) (hT a (by simp)) rfl
    obtain ⟨v0, v1, v2, v3⟩ := h.wrote1 ok hx h2
    have e : wrAll (a :: T) S = wrAll T (wr1 S i f) := by
      conv => lhs; unfold wrAll
      rw [h1]
      simp only
      rw [h2]
      simp only
      rw [if_pos v0]
    have hpg : (wr1 S i f).l.map (·.pg) = S.l.map (·.pg) := pgs_set h2 (wrF_pg _ _).1
    obtain ⟨r1, r2, r3, r4⟩ := ih (b + 1) (wr1 S i f) v2 (ok.wr1 h2) (v1.nx hx) (fun c hc => by
      obtain ⟨i', f', _, q2, q3⟩ := idx_of_mem (hT c (List.mem_cons_of_mem _ hc)) hpg
      exact ⟨f', List.mem_of_getElem? q2, q3⟩)
    rw [e]
    refine ⟨r1, v1.trans r2, r3, fun g hg hd => ?_⟩
    obtain ⟨m1, m2⟩ := r4 g hg hd
    obtain ⟨m3, m4⟩ := v3 g m1 hd
    refine ⟨m3, fun q => ?_⟩
    rcases List.mem_cons.1 q with z | z
    · exact m4 (by omega)
    · exact m2 z

theorem Hv.flush (h : Hv S V A) (ok : OkS b S) (hx : S.D.next ≤ 0) : (flushS S).1 = 0 ∧ Kpt S (flushS S).2 ∧ Hv (flushS S).2 V A ∧ ∀ j, j < S.D.n → (flushS S).2.D.seen j = V j := by
  obtain ⟨r1, r2, r3, r4⟩ := Hv.all (dirtyS S) b S h ok hx (fun a ha => pgs_mem (sortI_mem ha))
  have hclean : ∀ g ∈ (wrAll (dirtyS S) S).2.l, g.dirty = false := fun g hg => by
    cases hd : g.dirty with
    | false => rfl
    | true =>
      obtain ⟨m1, m2⟩ := r4 g hg hd
      refine absurd ?_ m2
      unfold dirtyS sortI
      rw [(List.mergeSort_perm _ _).mem_iff]
      unfold pgs
      exact List.mem_map.2 ⟨g, List.mem_filter.2 ⟨m1, hd⟩, rfl⟩
  have hleft : ¬ (wrAll (dirtyS S) S).2.D.left = 0 := by have := r3.up; omega
  have eD : flD (wrAll (dirtyS S) S).2.D = (wrAll (dirtyS S) S).2.D.flushed := by unfold flD; rw [if_neg hleft]
  unfold flushS
  rw [if_pos r1]
  simp only
  rw [eD]
  refine ⟨by unfold flE; rw [if_neg hleft], ⟨r2.n, r2.dn, r2.nx⟩, ⟨?_, r3.v, r3.p, r3.c, r3.a, r3.h⟩, fun j hj => ?_⟩
  · show (wrAll (dirtyS S) S).2.D.left - 1 < 0
    have := r3.up
    omega
  · show (wrAll (dirtyS S) S).2.D.seen j = V j
    by_cases q : ∃ f ∈ (wrAll (dirtyS S) S).2.l, f.pg = j
    · obtain ⟨f, hf, rfl⟩ := q
      rw [r3.c f hf (hclean f hf)]
      exact r3.v f hf
    · exact r3.a j (by rw [r2.dn]; exact hj) (fun f hf e => q ⟨f, hf, e⟩)
end

theorem hv_new (n m : Nat) : Hv ⟨n, [], 0, 0, D0 m⟩ (fun _ => blk 0) [] :=
  ⟨by show (-1 : Int) < 0; decide, fun f hf => (by cases hf), fun f hf => (by cases hf), fun f hf => (by cases hf), fun _ _ _ => rfl, fun j hj => (by cases hj)⟩

end Go.Proofs.YtkjioabhdglkpaaGreat
end

section
namespace Go.Proofs.YtkjioabhdglkpaaGreat
open Go.RowKit

theorem two_pow_8 : ∀ e : Nat, e < 8 → (2 : Int) ^ e % 256 = ((2 ^ e : Nat) : Int) := by decide

set_option maxHeartbeats 800000 in
theorem bitOf_any (i : Nat) (w : World) : Calls Tryz.prog 86 #[.int .i64 (i : Int)] w fun e w' => e = .returned (.int .u8 ((2 ^ (i % 8) : Nat) : Int)) ∧ w' = w := by
  have h1 : (i : Int).tmod 8 = ((i % 8 : Nat) : Int) := (Int.ofNat_tmod i 8).symm
  have h2 : i % 8 < 8 := Nat.mod_lt _ (by decide)
  go_enter Tryz.func86, Tryz.ntmps86
  go_wp2_with fail
  go_ret
  exact ⟨congrArg (fun x => Ending.returned (.int .u8 x)) (two_pow_8 _ h2), rfl⟩

set_option maxHeartbeats 800000 in
theorem join_any (i k : Nat) (hi : i < 4096) (hk : k < 1000) (w : World) : Calls Tryz.prog 59 #[.int .i64 (i : Int), .int .i64 (k : Int)] w fun e w' => e = .returned (.int .i64 (128 * (i : Int) + (k : Int))) ∧ w' = w := by
  go_enter Tryz.func59, Tryz.ntmps59
  go_wp2_with fail
  go_ret
  exact ⟨congrArg (fun x => Ending.returned (.int .i64 x)) (show (i : Int) * 128 + (k : Int) = 128 * (i : Int) + (k : Int) by omega), rfl⟩

set_option maxHeartbeats 800000 in
theorem none_any (x : Int) (w : World) : Calls Tryz.prog 108 #[.int .i64 x] w fun e w' => e = .returned (.int .i64 (if x = 40 then 60 else x)) ∧ w' = w := by
  by_cases h : x = 40
  · subst h
    go_enter Tryz.func108, Tryz.ntmps108
    go_wp2_with fail
    all_goals go_ret
    all_goals exact ⟨rfl, rfl⟩
  · have h1 : (x == 40) = false := by simpa using h
    rw [if_neg h]
    clear h
    go_enter Tryz.func108, Tryz.ntmps108
    go_wp2_with fail
    all_goals go_ret
    all_goals exact ⟨rfl, rfl⟩

theorem byteAt_of {M : ByteArray} {k : Nat} (h : k < M.size) : byteAt M k = (M[k]).toNat := by
  have h1 : k < M.data.toList.length := by simpa using h
  unfold byteAt
  rw [List.getElem?_eq_getElem h1]
  rfl

set_option maxHeartbeats 800000 in
set_option maxRecDepth 100000 in
theorem marked_any (M : ByteArray) (i : Nat) (hM : M.size = 512) (hi : i < 4096) (w : World) : Calls Tryz.prog 60 #[.string M, .int .i64 (i : Int)] w fun e w' => e = .returned (.bool (bit M i)) ∧ Below w.heap.size w w' := by
  have h1 : (i : Int).tdiv 8 = ((i / 8 : Nat) : Int) := (Int.ofNat_tdiv i 8).symm
  have h2 : i / 8 < M.size := by omega
  have hb := and_bit (byteAt M (i / 8)) (byteAt_lt _ _) (i % 8) (Nat.mod_lt _ (by decide))
  rw [byteAt_of h2] at hb
  have HB : Hid (bit M i = ((M[i / 8]).toNat).testBit (i % 8)) := by show _ = _; unfold bit; rw [byteAt_of h2]
  generalize hbi : bit M i = r at *
  have c := bitOf_any i
  have hk : i / 8 < 512 := by omega
  generalize i / 8 = k at *
  have hw : IntKind.i64.wrap (k : Int) = (k : Int) := by rw [IntKind.wrap_i64]; omega
  generalize 2 ^ (i % 8) = z at *
  have h3 : (k : Int) < (M.size : Int) := by omega
  go_enter Tryz.func60, Tryz.ntmps60
  go_wp2_with fail
  go_region_held3 (fun _ => True) (first | trivial | go_keep)
    (first | (go_at_call 86; refine (c _).mono ?_; rintro e w1 ⟨rfl, h1⟩; rw [h1]))
  all_goals go_wp2_with fail
  all_goals go_ret
  all_goals exact ⟨congrArg (fun x => Ending.returned (.bool x)) HB.out.symm, below_drew w⟩

end Go.Proofs.YtkjioabhdglkpaaGreat
end

section
namespace Go.Proofs.YtkjioabhdglkpaaGreat
open Go.RowKit

/-- Orders that part in a region come together behind it. -/
def EndQ (A : Act) (R : World → Prop) : Exit → Act → World → Prop
  | .normal, a, V => a = A ∧ R V
  | _, _, _ => False
theorem wp_end {P : Program} {c : Code} {Q : Exit → Act → World → Prop} {act : Act} {w : World} (A : Act) (R : World → Prop) (h : c.wp P (EndQ A R) act w) (hk : ∀ V, R V → Q .normal A V) : c.wp P Q act w := by
  refine Code.wp_mono (fun e a V h => ?_) h
  cases e with
  | normal => obtain ⟨rfl, r⟩ := h; exact hk V r
  | _ => exact (h : False).elim
theorem EndQ.mk {A : Act} {R : World → Prop} {V : World} (h : R V) : EndQ A R .normal A V := ⟨rfl, h⟩

theorem conv_any (M : ByteArray) (hM : M.size = 512) (w : World) : ∃ c w1, (convert 9 129 (.string M)).run Tryz.prog w = .ok (.slice (some ⟨w.heap.size, 0, none⟩) 512 c) w1 ∧ (∀ j, j < 512 → w1.cell? ⟨w.heap.size, j, none⟩ = some (.int .u8 (byteAt M j : Int))) ∧ (∀ j, j < 512 → w1.frozen? ⟨w.heap.size, j, none⟩ = false) ∧ Below w.heap.size w w1 := by
  have h := Lib.run_convert_string_bytes (P := Tryz.prog) w 9 129 5 M Tryz.underlying9 Tryz.underlying129 Tryz.underlying5
  rw [hM] at h
  refine ⟨_, _, h, fun j hj => ?_, fun j hj => ?_, ⟨rfl, rfl, rfl, ?_, fun k hk => Lib.bytesWorld_at_old w _ M k hk⟩⟩
  · rw [Lib.bytesWorld_cell w _ M j (by omega)]
    have hl : j < M.data.toList.length := by simpa using (by omega : j < M.size)
    unfold byteAt
    rw [List.getD_eq_getElem?_getD, List.getElem?_eq_getElem hl]
    rfl
  · have hs : (Lib.bytesCells w 5 M).size ≥ 512 := by
      unfold Lib.bytesCells
      rw [Array.size_append, Array.size_map]
      have : M.data.size = 512 := hM
      omega
    simp only [World.frozen?, Lib.bytesWorld_at_new]
    simp
    omega
  · rw [Lib.bytesWorld_size]; omega

theorem cell_lt {w : World} {b o : Nat} {v : Value} (h : w.cell? ⟨b, o, none⟩ = some v) : b < w.heap.size := by
  rcases Nat.lt_or_ge b w.heap.size with q | q
  · exact q
  · simp [World.cell?, Array.getElem?_eq_none q] at h
theorem text_of (N : ByteArray) (hN : N.size = 512) (w : World) (b c : Nat) (h : ∀ j, j < 512 → w.cell? ⟨b, j, none⟩ = some (.int .u8 (byteAt N j : Int))) :
    (convert 129 9 (.slice (some ⟨b, 0, none⟩) 512 c)).run Tryz.prog w = .ok (.string N) w := by
  have hl : N.data.toList.length = 512 := by simpa using hN
  have e := run_convert_bytes_arg (P := Tryz.prog) w 129 5 Tryz.underlying129 Tryz.underlying5 b 0 512 c (N.data.toList.map fun b => (b.toNat : Int)) (by simpa using hl) (fun i hi => by
    rw [Nat.zero_add, h i hi]
    have hi2 : i < N.data.toList.length := by omega
    unfold byteAt
    rw [List.getElem?_eq_getElem hi2, List.getD_eq_getElem?_getD, List.getElem?_map, List.getElem?_eq_getElem hi2]
    rfl) 9 Tryz.underlying9
  rw [e]
  simp [strOfNums, Function.comp_def]

set_option maxHeartbeats 1600000 in
set_option maxRecDepth 100000 in
theorem mark_any (M : ByteArray) (i : Nat) (r : Bool) (hM : M.size = 512) (hi : i < 4096) (w : World) : Calls Tryz.prog 148 #[.string M, .int .i64 (i : Int), .bool r] w fun e w' => e = .returned (.string (mkB M i r)) ∧ Below w.heap.size w w' := by
  obtain ⟨cc, w1, hcv, hc1, hf1, hb1⟩ := conv_any M hM w
  have h1 : (i : Int).tdiv 8 = ((i / 8 : Nat) : Int) := (Int.ofNat_tdiv i 8).symm
  have h8 : i % 8 < 8 := Nat.mod_lt _ (by decide)
  have ha := andNot_bit (byteAt M (i / 8)) (byteAt_lt _ _) (i % 8) h8
  have ho := or_bit (byteAt M (i / 8)) (byteAt_lt _ _) (i % 8) h8
  have hk : i / 8 < 512 := by omega
  have hB := fun r => byteAt_mk (M := M) i r (by omega)
  have hS := fun r => mk_size M i r
  have c := bitOf_any i
  generalize i / 8 = k at *
  have hw : IntKind.i64.wrap (k : Int) = (k : Int) := by rw [IntKind.wrap_i64]; omega
  have hk2 : (k : Int) < 512 := by omega
  have e1 := hc1 k hk
  have f1 := hf1 k hk
  have HC : Hid (∀ j, j < 512 → w1.cell? ⟨w.heap.size, j, none⟩ = some (.int .u8 (byteAt M j : Int))) := hc1
  have HB : Hid (∀ r j, byteAt (mkB M i r) j = if j = k then setN (byteAt M k) (i % 8) r else byteAt M j) := fun r j => hB r j
  have HX : Hid (∀ r, setN (byteAt M k) (i % 8) r = if r then setN (byteAt M k) (i % 8) true else setN (byteAt M k) (i % 8) false) := fun r => by cases r <;> rfl
  clear hc1 hf1 hB
  generalize setN (byteAt M k) (i % 8) false = x0 at *
  generalize setN (byteAt M k) (i % 8) true = x1 at *
  have HF : Hid (∀ (r : Bool) (V : World), (∀ j, V.cell? ⟨w.heap.size, j, none⟩ = if j = k then some (.int .u8 ((if r then x1 else x0 : Nat) : Int)) else w1.cell? ⟨w.heap.size, j, none⟩) → (convert 129 9 (.slice (some ⟨w.heap.size, 0, none⟩) 512 cc)).run Tryz.prog V = .ok (.string (mkB M i r)) V) := by
    intro r V hV
    refine text_of (mkB M i r) ((hS r).trans hM) V _ cc (fun j hj => ?_)
    rw [hV, HB.out, HX.out]
    by_cases e : j = k
    · rw [if_pos e, if_pos e]
    · rw [if_neg e, if_neg e, HC.out j hj]
  have hlt := cell_lt e1
  clear HB HX HC hS
  generalize byteAt M k = x at *
  generalize 2 ^ (i % 8) = z at *
  have HL : Hid (w.heap.size < w1.heap.size) := hlt
  have HW : Hid (Below w.heap.size w w1) := hb1
  clear hlt hb1
  have c1 : ∀ v, (w1.setCell ⟨w.heap.size, k, none⟩ v).cell? ⟨w.heap.size, k, none⟩ = some v := fun v => World.cell?_setCell_same w1 _ _ e1
  have c2 : ∀ v j, j ≠ k → (w1.setCell ⟨w.heap.size, k, none⟩ v).cell? ⟨w.heap.size, j, none⟩ = w1.cell? ⟨w.heap.size, j, none⟩ := fun v j hj => by
    apply World.cell?_setCell_other
    intro e
    cases e
    exact hj rfl
  cases r
  · have HV := HF.out false ((w1.setCell ⟨w.heap.size, k, none⟩ (.int .u8 (x0 : Int))).drew) (fun j => by
      by_cases e : j = k
      · rw [if_pos e, e]; exact c1 _
      · rw [if_neg e]; exact c2 _ j e)
    go_enter Tryz.func148, Tryz.ntmps148
    go_wp2_with fail
    apply wp_end (R := fun V => V = (w1.setCell ⟨w.heap.size, k, none⟩ (.int .u8 (x0 : Int))).drew)
    case h =>
      go_region_with ((go_at_call 86; refine (c _).mono ?_; rintro e w1 ⟨rfl, h1⟩; rw [h1]))
      all_goals exact EndQ.mk rfl
    rintro _ rfl
    go_wp2_with fail
    go_ret
    exact ⟨rfl, (HW.out.setCell (Nat.le_refl _) _).drew⟩
  · have d1 := c1 (.int .u8 (x0 : Int))
    have g1 : (w1.setCell ⟨w.heap.size, k, none⟩ (.int .u8 (x0 : Int))).frozen? ⟨w.heap.size, k, none⟩ = false := by rw [World.frozen?_setCell]; exact f1
    generalize hV1 : (w1.setCell ⟨w.heap.size, k, none⟩ (.int .u8 (x0 : Int))).drew = V1
    have d1' : V1.cell? ⟨w.heap.size, k, none⟩ = some (.int .u8 (x0 : Int)) := by rw [← hV1]; exact d1
    have g1' : V1.frozen? ⟨w.heap.size, k, none⟩ = false := by rw [← hV1]; exact g1
    have c3 : ∀ v j, j ≠ k → (V1.setCell ⟨w.heap.size, k, none⟩ v).cell? ⟨w.heap.size, j, none⟩ = w1.cell? ⟨w.heap.size, j, none⟩ := fun v j hj => by
      rw [← c2 (.int .u8 (x0 : Int)) j hj, ← hV1]
      apply World.cell?_setCell_other
      intro e
      cases e
      exact hj rfl
    have HV := HF.out true ((V1.setCell ⟨w.heap.size, k, none⟩ (.int .u8 (x1 : Int))).drew) (fun j => by
      by_cases e : j = k
      · rw [if_pos e, e]; exact World.cell?_setCell_same V1 _ _ d1'
      · rw [if_neg e]; exact c3 _ j e)
    have HW1 : Hid (Below w.heap.size w V1) := by show Below _ _ _; rw [← hV1]; exact (HW.out.setCell (Nat.le_refl _) _).drew
    have HVe : Hid ((w1.setCell ⟨w.heap.size, k, none⟩ (.int .u8 (x0 : Int))).drew = V1) := hV1
    clear hV1 c1 c2 c3 d1 g1
    go_enter Tryz.func148, Tryz.ntmps148
    go_wp2_with fail
    apply wp_end (R := fun V => V = V1)
    case h =>
      go_region_with ((go_at_call 86; refine (c _).mono ?_; rintro e w1 ⟨rfl, h1⟩; rw [h1]))
      all_goals exact EndQ.mk HVe.out
    intro V eV
    rw [show V = V1 from eV]
    clear eV V
    clear e1 f1 ha
    go_wp2_with fail
    apply wp_end (R := fun V => V = (V1.setCell ⟨w.heap.size, k, none⟩ (.int .u8 (x1 : Int))).drew)
    case h =>
      go_region_with ((go_at_call 86; refine (c _).mono ?_; rintro e w1 ⟨rfl, h1⟩; rw [h1]))
      all_goals exact EndQ.mk rfl
    rintro _ rfl
    go_wp2_with fail
    go_ret
    exact ⟨rfl, (HW1.out.setCell (Nat.le_refl _) _).drew⟩

end Go.Proofs.YtkjioabhdglkpaaGreat
end

section
namespace Go.Proofs.YtkjioabhdglkpaaGreat
open Go.RowKit

def hobj (p : Nat) : Obj := .cells #[.pointer (some ⟨p, 0, none⟩)] 119 (0, 0)

/-- A heap (hb) over a pool (p) of m frames and n pages that read as V; the pages of A are pinned; z: no write is to be refused. -/
structure Hs (W w : World) (hb p g bd n m : Nat) (V : Nat → ByteArray) (A : List Nat) (z : Prop) (E : List (Nat × Obj)) : Prop where
  ex : ∃ S, Q1 W w p g bd S ((hb, hobj p) :: E) ∧ Hv S V A ∧ S.D.n = n ∧ S.n = m ∧ (z → S.D.next ≤ 0)

section
variable {W w w' : World} {hb p g bd n m : Nat} {V : Nat → ByteArray} {A : List Nat} {z : Prop} {E : List (Nat × Obj)}

theorem Hs.mono {c : Nat} (h : Hs W w hb p g bd n m V A z E) (hc : bd ≤ c) : Hs W w hb p g c n m V A z E := by
  obtain ⟨S, a, r⟩ := h.ex
  exact ⟨S, a.mono hc, r⟩
theorem Hs.below (h : Hs W w hb p g bd n m V A z E) (hb' : Below w.heap.size w w') : Hs W w' hb p g bd n m V A z E := by
  obtain ⟨S, a, r⟩ := h.ex
  exact ⟨S, a.below hb', r⟩
theorem Hs.drew (h : Hs W w hb p g bd n m V A z E) : Hs W w.drew hb p g bd n m V A z E := h.below (below_drew w)
theorem Hs.bel (h : Hs W w hb p g bd n m V A z E) : Below W.heap.size W w := by
  obtain ⟨S, a, r⟩ := h.ex
  exact a.bel
theorem Hs.cell (h : Hs W w hb p g bd n m V A z E) : w.cell? ⟨hb, 0, none⟩ = some (.pointer (some ⟨p, 0, none⟩)) := by
  obtain ⟨S, a, r⟩ := h.ex
  have := a.at (k := hb) (o := hobj p) (by simp)
  simp [World.cell?, this, hobj]
theorem Hs.vsize (h : Hs W w hb p g bd n m V A z E) {k : Nat} (hk : k < n) : (V k).size = 512 := by
  obtain ⟨S, a, b, rfl, d, e⟩ := h.ex
  by_cases q : ∃ f ∈ S.l, f.pg = k
  · obtain ⟨f, hf, rfl⟩ := q
    rw [← b.v f hf]
    exact (a.ok.pg f hf).2.1
  · rw [← b.a k hk (fun f hf e => q ⟨f, hf, e⟩)]
    exact a.ok.inv.seenSize k hk

theorem Hs.pin (h : Hs W w hb p g bd n m V A z E) (hbd : bd ≤ 8000000) (hA : A.length < m) (k : Nat) (hk : k < n) (hkA : k ∉ A) :
    Calls Tryz.prog 83 #[.pointer (some ⟨p, 0, none⟩), .int .i64 (k : Int)] w fun e w' => (e = .returned (.tuple #[.string (V k), .int .i64 0]) ∧ Hs W w' hb p g (bd + 2) n m V (k :: A) z E) ∨ (e = .returned (.tuple #[.string ⟨#[]⟩, .int .i64 42]) ∧ ¬ z ∧ Hs W w' hb p g (bd + 2) n m V A z E) := by
  obtain ⟨S, a, b, rfl, rfl, hz⟩ := h.ex
  refine (a.pin hbd (k : Int)).mono ?_
  rintro e w' ⟨rfl, q⟩
  obtain ⟨t, r⟩ := b.pin a.ok hA k hk hkA
  rcases r with ⟨r1, r2⟩ | ⟨r1, r2, r3⟩
  · refine Or.inl ⟨by rw [r1], ⟨_, q, r2, t.dn, t.n, fun y => t.nx (hz y)⟩⟩
  · exact Or.inr ⟨by rw [r1], fun y => by have := hz y; omega, ⟨_, q, r3, t.dn, t.n, fun y => t.nx (hz y)⟩⟩
theorem Hs.pinOut (h : Hs W w hb p g bd n m V A z E) (hbd : bd ≤ 8000000) (k : Int) (hk : ¬ (0 ≤ k ∧ k < (n : Int))) :
    Calls Tryz.prog 83 #[.pointer (some ⟨p, 0, none⟩), .int .i64 k] w fun e w' => e = .returned (.tuple #[.string ⟨#[]⟩, .int .i64 40]) ∧ Hs W w' hb p g (bd + 2) n m V A z E := by
  obtain ⟨S, a, b, rfl, rfl, hz⟩ := h.ex
  refine (a.pin hbd k).mono ?_
  rintro e w' ⟨rfl, q⟩
  rw [pin_out S k hk] at q ⊢
  exact ⟨rfl, ⟨S, q, b, rfl, rfl, hz⟩⟩
theorem Hs.unpin (h : Hs W w hb p g bd n m V A z E) (hbd : bd ≤ 8000000) {k : Nat} (hk : k ∈ A) (A' : List Nat) (hA' : ∀ j, j ≠ k → (j ∈ A' ↔ j ∈ A)) (hkA : k ∉ A') :
    Calls Tryz.prog 84 #[.pointer (some ⟨p, 0, none⟩), .int .i64 (k : Int)] w fun e w' => e = .returned (.int .i64 0) ∧ Hs W w' hb p g (bd + 1) n m V A' z E := by
  obtain ⟨S, a, b, rfl, rfl, hz⟩ := h.ex
  refine (a.unpin hbd (k : Int)).mono ?_
  rintro e w' ⟨rfl, q⟩
  obtain ⟨r1, t, r2⟩ := b.unpin a.ok hk A' hA' hkA
  exact ⟨by rw [r1], ⟨_, q, r2, t.dn, t.n, fun y => t.nx (hz y)⟩⟩
theorem Hs.setp (h : Hs W w hb p g bd n m V A z E) (hbd : bd ≤ 8000000) {k : Nat} (hk : k ∈ A) (s : ByteArray) (hs : s.size = 512) :
    Calls Tryz.prog 147 #[.pointer (some ⟨p, 0, none⟩), .int .i64 (k : Int), .string s] w fun e w' => e = .returned (.int .i64 0) ∧ Hs W w' hb p g (bd + 1) n m (upd V k s) A z E := by
  obtain ⟨S, a, b, rfl, rfl, hz⟩ := h.ex
  refine (a.setp hbd (k : Int) s).mono ?_
  rintro e w' ⟨rfl, q⟩
  obtain ⟨r1, t, r2⟩ := b.set a.ok hk s hs
  exact ⟨by rw [r1], ⟨_, q, r2, t.dn, t.n, fun y => t.nx (hz y)⟩⟩

set_option maxHeartbeats 800000 in
theorem new_heap (p : Nat) (w : World) : Calls Tryz.prog 24 #[.pointer (some ⟨p, 0, none⟩)] w fun e w' => e = .returned (.tuple #[.pointer (some ⟨w.heap.size, 0, none⟩), .int .i64 0]) ∧ w' = w.alloc (hobj p) := by
  go_enter Tryz.func24, Tryz.ntmps24
  go_wp2_with fail
  go_ret2
  exact ⟨rfl, rfl⟩

set_option maxHeartbeats 800000 in
theorem new_none (w : World) : Calls Tryz.prog 24 #[.pointer none] w fun e w' => e = .returned (.tuple #[.pointer none, .int .i64 1]) ∧ w' = w := by
  go_enter Tryz.func24, Tryz.ntmps24
  go_wp2_with fail
  go_ret2
  exact ⟨rfl, rfl⟩

set_option maxHeartbeats 800000 in
theorem look_any (h : Hs W w hb p g bd n m V [] z E) (hbd : bd ≤ 7000000) (hm : 1 ≤ m) (k : Nat) (hk : k < n) :
    Calls Tryz.prog 56 #[.pointer (some ⟨hb, 0, none⟩), .int .i64 (k : Int)] w fun e w' => (e = .returned (.tuple #[.string (V k), .int .i64 0]) ∧ Hs W w' hb p g (bd + 3) n m V [] z E) ∨ (e = .returned (.tuple #[.string ⟨#[]⟩, .int .i64 42]) ∧ ¬ z ∧ Hs W w' hb p g (bd + 3) n m V [] z E) := by
  have c0 := h.cell
  have cP := h.pin (by omega) (by show 0 < m; omega) k hk (by simp)
  clear h
  go_enter Tryz.func56, Tryz.ntmps56
  go_wp2_with fail
  refine cP.mono ?_
  rintro e w1 (⟨rfl, h1⟩ | ⟨rfl, nz, h1⟩)
  · have c1 := h1.cell
    have cU := h1.unpin (by omega) (k := k) (by simp) [] (by simp) (by simp)
    clear cP h1
    go_wp2_with fail
    refine cU.mono ?_
    rintro e w2 ⟨rfl, h2⟩
    clear cU
    go_wp2_with fail
    go_ret2
    exact Or.inl ⟨rfl, h2⟩
  · clear cP
    go_wp2_with fail
    go_ret2
    exact Or.inr ⟨rfl, nz, h1.mono (by omega)⟩

set_option maxHeartbeats 800000 in
theorem look_out (h : Hs W w hb p g bd n m V [] z E) (hbd : bd ≤ 7000000) (k : Int) (hk : ¬ (0 ≤ k ∧ k < (n : Int))) :
    Calls Tryz.prog 56 #[.pointer (some ⟨hb, 0, none⟩), .int .i64 k] w fun e w' => e = .returned (.tuple #[.string ⟨#[]⟩, .int .i64 40]) ∧ Hs W w' hb p g (bd + 3) n m V [] z E := by
  have c0 := h.cell
  have cP := h.pinOut (by omega) k hk
  clear h
  go_enter Tryz.func56, Tryz.ntmps56
  go_wp2_with fail
  refine cP.mono ?_
  rintro e w1 ⟨rfl, h1⟩
  clear cP
  go_wp2_with fail
  go_ret2
  exact ⟨rfl, h1.mono (by omega)⟩
end

set_option maxHeartbeats 800000 in
theorem split_no (k : Int) (h : k < 128 ∨ 524288 ≤ k ∨ 126 < k.tmod 128) (w : World) : Calls Tryz.prog 107 #[.int .i64 k] w fun e w' => e = .returned (.tuple #[.int .i64 0, .int .i64 0, .bool false]) ∧ w' = w := by
  by_cases h1 : k < 128
  · have d1 : decide (k < 128) = true := by simpa using h1
    clear h
    go_enter Tryz.func107, Tryz.ntmps107
    go_wp2_with fail
    all_goals go_ret3
    all_goals exact ⟨rfl, rfl⟩
  · have d1 : decide (k < 128) = false := by simpa using h1
    by_cases h2 : 524288 ≤ k
    · have d2 : decide (524288 ≤ k) = true := by simpa using h2
      clear h
      go_enter Tryz.func107, Tryz.ntmps107
      go_wp2_with fail
      all_goals go_ret3
      all_goals exact ⟨rfl, rfl⟩
    · have d2 : decide (524288 ≤ k) = false := by simpa using h2
      have h3 : 126 < k.tmod 128 := by omega
      rw [Int.tmod_eq_emod_of_nonneg (by omega)] at h3
      have d3 : decide (126 < k % 128) = true := by simpa using h3
      clear h
      go_enter Tryz.func107, Tryz.ntmps107
      go_wp2_with fail
      all_goals go_ret3
      all_goals exact ⟨rfl, rfl⟩

set_option maxHeartbeats 800000 in
theorem split_ok (k : Int) (i s : Nat) (hk : k = 128 * (i : Int) + (s : Int)) (h1 : 1 ≤ i) (h2 : i < 4096) (hs : s ≤ 126) (w : World) : Calls Tryz.prog 107 #[.int .i64 k] w fun e w' => e = .returned (.tuple #[.int .i64 (i : Int), .int .i64 (s : Int), .bool true]) ∧ w' = w := by
  have t1 : k.tdiv 128 = (i : Int) := by
    rw [Int.tdiv_eq_ediv_of_nonneg (by omega)]
    omega
  have t2 : k.tmod 128 = (s : Int) := by
    rw [Int.tmod_eq_emod_of_nonneg (by omega)]
    omega
  have d1 : decide (k < 128) = false := by simp; omega
  have d2 : decide (524288 ≤ k) = false := by simp; omega
  have d3 : decide (126 < (s : Int)) = false := by simp; omega
  have hK : Hid (k = 128 * (i : Int) + (s : Int)) := hk
  clear hk
  go_enter Tryz.func107, Tryz.ntmps107
  go_wp2_with fail
  all_goals go_ret3
  all_goals exact ⟨rfl, rfl⟩

end Go.Proofs.YtkjioabhdglkpaaGreat
end

section
namespace Go.Proofs.YtkjioabhdglkpaaGreat
open Go.RowKit

section
variable {B : Nat} {w : World} {x : PX}

set_option maxHeartbeats 1600000 in
set_option maxRecDepth 100000 in
theorem unpin_okD (u : FrameMode) (h : Pd B w x) (hf : x.fv = x.hv) (hl : x.L.length ≤ 1000) (hO : x.O = []) (a : Int) (hB : B ≤ w.heap.size) {i b m : Nat} {f : Fm} (hi : x.L[i]? = some (b, f)) (hp : f.pins = m + 1) (hm : m ≤ 100000000) (c : Calls Tryz.prog 114 #[.pointer (some ⟨x.p, 0, none⟩), .int .i64 a] w fun e w' => e = .returned (.tuple #[.pointer (some ⟨b, 0, none⟩), .int .i64 0]) ∧ w' = w) :
    CallsD Tryz.prog 84 #[.pointer (some ⟨x.p, 0, none⟩), .int .i64 a] u w fun e u' w' => u' = u ∧ (e = .returned (.int .i64 0) ∧ ∃ hv', PTo B w x { x with fv := hv', hv := hv', L := x.L.eraseIdx i ++ [(b, { f with pins := m })] } w') := by
  have t2 := h.setL hi hO (fr_set w b 2 (.int .i64 (m : Int))) (f' := { f with pins := m }) (fobj_set2 (h.inL hi).1 m)
  have hlt : i < x.L.length := (List.getElem?_eq_some_iff.1 hi).1
  have hi1 : (x.L.set i (b, { f with pins := m }))[i]? = some (b, { f with pins := m }) := by simp [hlt]
  have cU := use_any t2.pd hf (by simpa using hl) b { f with pins := m } (Or.inl ⟨⟨i, hi1⟩, hO⟩) (by simpa using hB)
  have eU : usedL (x.L.set i (b, { f with pins := m })) b { f with pins := m } = x.L.eraseIdx i ++ [(b, { f with pins := m })] := by
    unfold usedL
    rw [(filt_in hi1 t2.pd.ndL).1, List.eraseIdx_set_eq]
  rw [eU] at cU
  simp only at cU
  have T2 : Hid (PTo B w x _ _) := t2
  obtain ⟨f0, f1, f2, f3⟩ := fobj_cell (h.inL hi).1
  have e4 : ((f.pins : Nat) : Int) = (m : Int) + 1 := by omega
  rw [e4] at f2
  have z2 := fobj_free (h.inL hi).1 2
  have HO : Hid (x.O = []) := hO
  clear t2 hi1 eU h hf hi hO hp e4
  go_enter_d Tryz.func84, Tryz.ntmps84
  go_wp2_with fail
  refine c.mono ?_
  rintro e w1 ⟨rfl, hw1⟩
  subst hw1
  clear c
  go_wp2_with fail
  refine cU.mono ?_
  rintro e w3 ⟨rfl, hv3, t3⟩
  have T3 : Hid (PTo B _ _ _ w3) := t3
  clear t3 cU
  go_wp2_with fail
  go_ret
  refine ⟨rfl, hv3, ?_⟩
  rw [show ({ x with fv := hv3, hv := hv3, L := x.L.eraseIdx i ++ [(b, { f with pins := m })] } : PX) = { x with fv := hv3, hv := hv3, L := x.L.eraseIdx i ++ [(b, { f with pins := m })], O := [] } by rw [← HO.out]]
  exact T2.out.trans T3.out

end

theorem unpin_anyD {B bd : Nat} {w : World} {x : PX} (u : FrameMode) (h : Pd B w x) (k : Good bd x) (hbd : bd ≤ 9000000) (hB : B ≤ w.heap.size) (a : Int) (h0 : (unpinS x.st a).1 = 0) :
    CallsD Tryz.prog 84 #[.pointer (some ⟨x.p, 0, none⟩), .int .i64 a] u w fun e u' w' => u' = u ∧ (e = .returned (.int .i64 0) ∧ ∃ x', PTo B w x x' w' ∧ x'.st = (unpinS x.st a).2 ∧ Good (bd + 1) x') := by
  have hl := k.len
  cases hx : idx x.st.l a with
  | none => unfold unpinS at h0; rw [hx] at h0; cases h0
  | some i =>
    obtain ⟨f, hf, hfa, hbef⟩ := idx_some hx
    obtain ⟨b, hb⟩ := frs_get hf
    obtain ⟨p1, p2, p3⟩ := k.L hb
    have c := fp_at h k.fv (by omega) a hb hfa (fun j b' f' hj hL => hbef j f' hj (frs_of hL))
    by_cases hp : f.pins = 0
    · unfold unpinS at h0; rw [hx] at h0; simp only at h0; rw [hf] at h0; simp only at h0; rw [if_pos hp] at h0; cases h0
    · rw [if_neg hp] at c
      have e : unpinS x.st a = (0, { x.st with l := x.st.l.eraseIdx i ++ [{ f with pins := f.pins - 1 }] }) := by unfold unpinS; rw [hx]; simp only; rw [hf]; simp only; rw [if_neg hp]
      rw [e]
      have hok := k.ok.used (g := { f with pins := f.pins - 1 }) hf rfl p2 (by show f.pins - 1 ≤ f.pins + 1; omega)
      refine (unpin_okD u h k.fv (by omega) k.O a hB hb (m := f.pins - 1) (by omega) (by omega) c).mono ?_
      rintro e u' w' ⟨rfl, rfl, hv, t⟩
      have es : PX.st { x with fv := hv, hv := hv, L := x.L.eraseIdx i ++ [(b, { f with pins := f.pins - 1 })] } = { x.st with l := x.st.l.eraseIdx i ++ [{ f with pins := f.pins - 1 }] } := by
        simp only [PX.st, frs_append, frs_erase]
        rfl
      exact ⟨rfl, rfl, _, t, es, ⟨rfl, k.O, by rw [es]; exact hok⟩⟩

theorem Hs.unpinD {W w : World} {hb p g bd n m : Nat} {V : Nat → ByteArray} {A : List Nat} {z : Prop} {E : List (Nat × Obj)} (u : FrameMode) (h : Hs W w hb p g bd n m V A z E) (hbd : bd ≤ 8000000) {k : Nat} (hk : k ∈ A) (A' : List Nat) (hA' : ∀ j, j ≠ k → (j ∈ A' ↔ j ∈ A)) (hkA : k ∉ A') :
    CallsD Tryz.prog 84 #[.pointer (some ⟨p, 0, none⟩), .int .i64 (k : Int)] u w fun e u' w' => u' = u ∧ e = .returned (.int .i64 0) ∧ Hs W w' hb p g (bd + 1) n m V A' z E := by
  obtain ⟨S, a, b, rfl, rfl, hz⟩ := h.ex
  obtain ⟨r1, t, r2⟩ := b.unpin a.ok hk A' hA' hkA
  obtain ⟨x, rfl, e2, rfl, e4, e5, e6⟩ := a.ex
  refine (unpin_anyD u e4 e5 (by omega) a.bel.size (k : Int) r1).mono ?_
  rintro e u' w' ⟨rfl, rfl, x', pt, hs, hg⟩
  exact ⟨rfl, rfl, ⟨_, Q1.step rfl e2 e4 e6 a.bel pt hs hg, r2, t.dn, t.n, fun y => t.nx (hz y)⟩⟩

end Go.Proofs.YtkjioabhdglkpaaGreat
end

section
namespace Go.Proofs.YtkjioabhdglkpaaGreat
open Go.RowKit

/-- What change tells and leaves: an error of the pool; an error of the turn; the page as it was turned. -/
structure Chg (W w' : World) (hb p g bd n m : Nat) (V : Nat → ByteArray) (H : Hp) (i : Nat) (l' : List Sl) (z : Prop) (E E' : List (Nat × Obj)) (X Y : Int) (A : List Nat) : Prop where
  out : (Y = 42 ∧ ¬ z ∧ Hs W w' hb p g bd n m V A z E) ∨ (X ≠ 0 ∧ Y = X ∧ Hs W w' hb p g bd n m V A z E') ∨ (X = 0 ∧ Y = 0 ∧ ∃ V', Vok n V' (updH H i l') ∧ Hs W w' hb p g bd n m V' A z E')

section
variable {W w : World} {hb p g bd n m : Nat} {V : Nat → ByteArray} {H : Hp} {z : Prop} {E E' : List (Nat × Obj)}

set_option maxHeartbeats 1600000 in
set_option maxRecDepth 100000 in
theorem change_any (h : Hs W w hb p g bd n m V [0] z E) (hbd : bd ≤ 7000000) (hm : 2 ≤ m) (ok : Vok n V H) (i : Nat) (h1 : 1 ≤ i) (h2 : i < n) (k : Nat) (ca : Array Value) (hk : ∀ (av : Array Value) (w : World), (callFunc k av).run Tryz.prog w = .ok (.enter k av) w)
    (l' : List Sl) (P : ByteArray) (X : Int) (hP : X = 0 → P = Go.Proofs.YtkjioabhdglkpaaGreat.pg l' ∧ Fine l') (cT : ∀ w1, Hs W w1 hb p g (bd + 2) n m V [i, 0] z E → Calls Tryz.prog k (#[.string (V i)] ++ ca) w1 fun e w' => e = .returned (.tuple #[.string P, .int .i64 X]) ∧ Hs W w' hb p g (bd + 2) n m V [i, 0] z E') :
    Calls Tryz.prog 118 #[.pointer (some ⟨hb, 0, none⟩), .string (V 0), .int .i64 (i : Int), .func (.func k) #[] ca] w fun e w' => ∃ Y, e = .returned (.int .i64 Y) ∧ Chg W w' hb p g (bd + 6) n m V H i l' z E E' X Y [0] := by
  have hn := ok.n.2
  have c0 := h.cell
  have cP := h.pin (by omega) (by show 1 < m; omega) i h2 (by simp; omega)
  have cM := marked_any (V 0) i ok.msz (by omega)
  have cK := fun r => mark_any (V 0) i r ok.msz (by omega)
  have hset := fun (q : Fine l') => ok.set h1 h2 q
  have hmsz := ok.msz
  have HS : Hid (∀ q : Fine l', (bit (V 0) i = (!l'.isEmpty) → Vok n (upd V i (Go.Proofs.YtkjioabhdglkpaaGreat.pg l')) (updH H i l')) ∧ Vok n (upd (upd V i (Go.Proofs.YtkjioabhdglkpaaGreat.pg l')) 0 (mkB (V 0) i (!l'.isEmpty))) (updH H i l')) := hset
  have HO : Hid (1 ≤ i ∧ i < n) := ⟨h1, h2⟩
  clear h ok hset h2 hn
  generalize hC : bit (V 0) i = C at *
  generalize hM0 : V 0 = M0 at *
  generalize hVi : V i = Si at *
  go_enter_defers Tryz.func118, Tryz.ntmps118
  go_wp2_with fail
  refine cP.mono ?_
  rintro e w1 (⟨rfl, t1⟩ | ⟨rfl, nz, t1⟩)
  · have c1 := t1.cell
    have cT1 := cT w1 t1
    clear cP cT t1
    go_wp2_with fail
    refine cT1.mono ?_
    rintro e w2 ⟨rfl, t2⟩
    clear cT1
    have c2 := t2.cell
    by_cases hX : X = 0
    · obtain ⟨rfl, hF⟩ := hP hX
      subst hX
      have hps := pg_size hF
      have cS := t2.setp (by omega) (k := i) (by simp) _ hps
      clear t2
      go_wp2_with fail
      refine cS.mono ?_
      rintro e w3 ⟨rfl, t3⟩
      clear cS
      have hL := slotsF_nil hF.trim 0
      have cL := slots_pg hF _ rfl w3
      generalize hLL : slotsF l' 0 = LL at *
      have hdec : decide (0 < (LL.length : Int)) = (!l'.isEmpty) := by
        cases l' with
        | nil => have := hL.2 rfl; rw [this]; rfl
        | cons s r =>
          have : LL.length ≠ 0 := fun q => by cases hL.1 q
          simp
          omega
      have hdec2 : decide (0 < LL.length) = (!l'.isEmpty) := by rw [← hdec]; simp
      have hSS := HS.out hF
      clear HS hL
      generalize hb0 : (!l'.isEmpty) = b0 at *
      have K1 : Hid (C = b0 → Vok n (upd V i (Go.Proofs.YtkjioabhdglkpaaGreat.pg l')) (updH H i l')) := hSS.1
      have K2 : Hid (Vok n (upd (upd V i (Go.Proofs.YtkjioabhdglkpaaGreat.pg l')) 0 (mkB M0 i b0)) (updH H i l')) := hSS.2
      clear hSS hb0 hLL
      go_wp2_with fail
      refine cL.mono ?_
      rintro e w4 ⟨v, rfl, hr, b4⟩
      obtain ⟨va, vc, rfl, _, _⟩ := hr.len
      have t4 := t3.below b4
      have cM4 := cM w4
      clear cL t3 b4 hr
      go_wp2_with fail
      refine cM4.mono ?_
      rintro e w5 ⟨rfl, b5⟩
      have t5 := t4.below b5
      clear cM4 t4 b5 hC
      have same : C = b0 → ∀ w5, Hs W w5 hb p g (bd + 2 + 1) n m (upd V i (Go.Proofs.YtkjioabhdglkpaaGreat.pg l')) [i, 0] z E' → CallsD Tryz.prog 84 #[.pointer (some ⟨p, 0, none⟩), .int .i64 (i : Int)] .returning w5 fun e u' w'' => u' = .returning ∧ e = .returned (.int .i64 0) ∧ Chg W w'' hb p g (bd + 6) n m V H i l' z E E' 0 0 [0] := by
        intro q w5 t5
        refine (t5.unpinD .returning (by omega) (k := i) (by simp) [0] (by intro j hj; simp [hj]) (by simp; have := HO.out; omega)).mono ?_
        rintro e u' w'' ⟨rfl, rfl, t6⟩
        exact ⟨rfl, rfl, ⟨Or.inr (Or.inr ⟨rfl, rfl, _, K1.out q, t6.mono (by omega)⟩)⟩⟩
      have other : ∀ w5, Hs W w5 hb p g (bd + 2 + 1 + 1) n m (upd (upd V i (Go.Proofs.YtkjioabhdglkpaaGreat.pg l')) 0 (mkB M0 i b0)) [i, 0] z E' → CallsD Tryz.prog 84 #[.pointer (some ⟨p, 0, none⟩), .int .i64 (i : Int)] .returning w5 fun e u' w'' => u' = .returning ∧ e = .returned (.int .i64 0) ∧ Chg W w'' hb p g (bd + 6) n m V H i l' z E E' 0 0 [0] := by
        intro w5 t5
        refine (t5.unpinD .returning (by omega) (k := i) (by simp) [0] (by intro j hj; simp [hj]) (by simp; have := HO.out; omega)).mono ?_
        rintro e u' w'' ⟨rfl, rfl, t6⟩
        exact ⟨rfl, rfl, ⟨Or.inr (Or.inr ⟨rfl, rfl, _, K2.out, t6.mono (by omega)⟩)⟩⟩
      have cSet := fun (w6 : World) (t6 : Hs W w6 hb p g (bd + 2 + 1) n m (upd V i (Go.Proofs.YtkjioabhdglkpaaGreat.pg l')) [i, 0] z E') => t6.setp (by omega) (k := 0) (by simp) (mkB M0 i b0) ((mk_size M0 i b0).trans hmsz)
      have cKb := cK b0
      have same2 := (show Hid _ from same)
      have other2 := (show Hid _ from other)
      clear cK same other hmsz
      have c5 := t5.cell
      have tD := t5.drew
      cases b0 <;> cases C
      · clear cSet cKb other2
        go_wp2_with fail
        refine leaves_cons (f := 84) (args := #[.pointer (some ⟨p, 0, none⟩), .int .i64 (i : Int)]) (by simp) (by simp [go_sem]) ?_
        refine (same2.out trivial _ t5).mono ?_
        rintro e u' w'' ⟨rfl, rfl, q⟩
        exact ⟨_, results_tmp rfl _ _ _, _, rfl, q⟩
      · clear same2
        go_wp2_with fail
        apply wp_end (R := fun U => Hs W U hb p g (bd + 2 + 1 + 1) n m (upd (upd V i (Go.Proofs.YtkjioabhdglkpaaGreat.pg l')) 0 (mkB M0 i false)) [i, 0] z E')
        case h =>
          go_region_held3 (fun U => U.cell? ⟨hb, 0, none⟩ = some (.pointer (some ⟨p, 0, none⟩))) (first | exact hB | exact c5 | go_keep)
            (first
              | (have _ := t6; go_at_call 147; refine (cSet _ t6).mono ?_; rintro e w7 ⟨rfl, t7⟩; have hB := t7.cell)
              | (go_at_call 148; refine (cKb _).mono ?_; rintro e w6 ⟨rfl, b6⟩; have t6 := tD.below b6; have hB := t6.cell))
          all_goals exact EndQ.mk t7
        intro w7 t7
        clear cSet cKb t5 tD c5
        go_wp2_with fail
        refine leaves_cons (f := 84) (args := #[.pointer (some ⟨p, 0, none⟩), .int .i64 (i : Int)]) (by simp) (by simp [go_sem]) ?_
        refine (other2.out _ t7).mono ?_
        rintro e u' w'' ⟨rfl, rfl, q⟩
        exact ⟨_, results_tmp rfl _ _ _, _, rfl, q⟩
      · clear same2
        go_wp2_with fail
        apply wp_end (R := fun U => Hs W U hb p g (bd + 2 + 1 + 1) n m (upd (upd V i (Go.Proofs.YtkjioabhdglkpaaGreat.pg l')) 0 (mkB M0 i true)) [i, 0] z E')
        case h =>
          go_region_held3 (fun U => U.cell? ⟨hb, 0, none⟩ = some (.pointer (some ⟨p, 0, none⟩))) (first | exact hB | exact c5 | go_keep)
            (first
              | (have _ := t6; go_at_call 147; refine (cSet _ t6).mono ?_; rintro e w7 ⟨rfl, t7⟩; have hB := t7.cell)
              | (go_at_call 148; refine (cKb _).mono ?_; rintro e w6 ⟨rfl, b6⟩; have t6 := tD.below b6; have hB := t6.cell))
          all_goals exact EndQ.mk t7
        intro w7 t7
        clear cSet cKb t5 tD c5
        go_wp2_with fail
        refine leaves_cons (f := 84) (args := #[.pointer (some ⟨p, 0, none⟩), .int .i64 (i : Int)]) (by simp) (by simp [go_sem]) ?_
        refine (other2.out _ t7).mono ?_
        rintro e u' w'' ⟨rfl, rfl, q⟩
        exact ⟨_, results_tmp rfl _ _ _, _, rfl, q⟩
      · clear cSet cKb other2
        go_wp2_with fail
        refine leaves_cons (f := 84) (args := #[.pointer (some ⟨p, 0, none⟩), .int .i64 (i : Int)]) (by simp) (by simp [go_sem]) ?_
        refine (same2.out trivial _ t5).mono ?_
        rintro e u' w'' ⟨rfl, rfl, q⟩
        exact ⟨_, results_tmp rfl _ _ _, _, rfl, q⟩
    · have hX2 : (X == 0) = false := by simpa using hX
      have HX : Hid (X ≠ 0) := hX
      clear hX hP
      go_wp2_with fail
      refine leaves_cons (f := 84) (args := #[.pointer (some ⟨p, 0, none⟩), .int .i64 (i : Int)]) (by simp) (by simp [go_sem]) ?_
      refine (t2.unpinD .returning (by omega) (k := i) (by simp) [0] (by intro j hj; simp [hj]) (by simp; omega)).mono ?_
      rintro e u' w'' ⟨rfl, rfl, t3⟩
      exact ⟨_, results_tmp rfl _ _ _, _, rfl, ⟨Or.inr (Or.inl ⟨HX.out, rfl, t3.mono (by omega)⟩)⟩⟩
  · clear cP cT
    go_wp2_with fail
    exact ⟨_, results_tmp rfl _ _ _, _, rfl, ⟨Or.inl ⟨rfl, nz, t1.mono (by omega)⟩⟩⟩
end
end Go.Proofs.YtkjioabhdglkpaaGreat
end

section
namespace Go.Proofs.YtkjioabhdglkpaaGreat
open Go.RowKit

def sobj (s : ByteArray) : Obj := .cells #[.string s] 9 (0, 0)
def iobj (k : Int) : Obj := .cells #[.int .i64 k] 3 (0, 0)

section
variable {W w w' : World} {hb p g bd n m : Nat} {V : Nat → ByteArray} {H : Hp} {A : List Nat} {z : Prop} {E E' : List (Nat × Obj)}

theorem Hs.less {F : List (Nat × Obj)} (h : Hs W w hb p g bd n m V A z E) (hs : ∀ y ∈ F, y ∈ E) : Hs W w hb p g bd n m V A z F := by
  obtain ⟨S, a, r⟩ := h.ex
  exact ⟨S, a.less (fun y hy => (List.mem_cons.1 hy).elim (fun e => by rw [e]; simp) (fun q => List.mem_cons_of_mem _ (hs y q))), r⟩
theorem Hs.alloc (h : Hs W w hb p g bd n m V A z E) (o : Obj) : Hs W (w.alloc o) hb p g bd n m V A z ((w.heap.size, o) :: E) := by
  obtain ⟨S, a, r⟩ := h.ex
  refine ⟨S, (a.alloc o).less (fun y hy => ?_), r⟩
  rcases List.mem_cons.1 hy with e | q
  · rw [e]; simp
  · rcases List.mem_cons.1 q with e | q
    · rw [e]; simp
    · simp [q]
theorem Hs.at (h : Hs W w hb p g bd n m V A z E) {k : Nat} {o : Obj} (hk : (k, o) ∈ E) : w.heap[k]? = some o := by
  obtain ⟨S, a, r⟩ := h.ex
  exact a.at (List.mem_cons_of_mem _ hk)
theorem Hs.hbAt (h : Hs W w hb p g bd n m V A z E) : w.heap[hb]? = some (hobj p) := by
  obtain ⟨S, a, r⟩ := h.ex
  exact a.at (List.mem_cons_self ..)
/-- A block of others is changed. -/
theorem Hs.put {k : Nat} {o o' : Obj} (h : Hs W w hb p g bd n m V A z ((k, o) :: E)) (hk : W.heap.size ≤ k) (hne : ∀ y ∈ E, y.1 ≠ k) (hh : hb ≠ k) (hf : Fr (fun j => j = k) w w') (ho : w'.heap[k]? = some o') : Hs W w' hb p g bd n m V A z ((k, o') :: E) := by
  obtain ⟨S, a, r⟩ := h.ex
  have a1 : Q1 W w p g bd S ((k, o) :: (hb, hobj p) :: E) := a.less (fun y hy => by
    rcases List.mem_cons.1 hy with e | q
    · rw [e]; simp
    · rcases List.mem_cons.1 q with e | q
      · rw [e]; simp
      · simp [q])
  have a2 := a1.set hk (fun y hy => by
    rcases List.mem_cons.1 hy with e | q
    · rw [e]; exact hh
    · exact hne y q) hf ho
  exact ⟨S, a2.less (fun y hy => by
    rcases List.mem_cons.1 hy with e | q
    · rw [e]; simp
    · rcases List.mem_cons.1 q with e | q
      · rw [e]; simp
      · simp [q]), r⟩

set_option maxHeartbeats 800000 in
set_option maxRecDepth 100000 in
theorem change_err (bits : ByteArray) (fv : Value) (i Y : Int) (hY : Y ≠ 0) (c0 : w.cell? ⟨hb, 0, none⟩ = some (.pointer (some ⟨p, 0, none⟩))) (R : World → Prop)
    (cP : Calls Tryz.prog 83 #[.pointer (some ⟨p, 0, none⟩), .int .i64 i] w fun e w' => e = .returned (.tuple #[.string ⟨#[]⟩, .int .i64 Y]) ∧ R w') :
    Calls Tryz.prog 118 #[.pointer (some ⟨hb, 0, none⟩), .string bits, .int .i64 i, fv] w fun e w' => e = .returned (.int .i64 Y) ∧ R w' := by
  have hY2 : (Y == 0) = false := by simpa using hY
  clear hY
  go_enter_defers Tryz.func118, Tryz.ntmps118
  go_wp2_with fail
  refine cP.mono ?_
  rintro e w1 ⟨rfl, hR⟩
  clear cP
  go_wp2_with fail
  exact ⟨_, results_tmp rfl _ _ _, rfl, hR⟩

set_option maxHeartbeats 800000 in
set_option maxRecDepth 100000 in
/-- The turn of insertAt. -/
theorem insTurn (l : List Sl) (hF : Fine l) (row : ByteArray) (hrs : row.size ≤ 1000000) (br bs : Nat) (k0 : Int) (w : World) (hr : w.heap[br]? = some (sobj row)) (hs : w.heap[bs]? = some (iobj k0)) :
    Calls Tryz.prog 122 (#[.string (pg l)] ++ #[.pointer (some ⟨br, 0, none⟩), .pointer (some ⟨bs, 0, none⟩)]) w fun e w' => e = .returned (.tuple #[.string (insR l row).1, .int .i64 (insR l row).2.2]) ∧ Fr (fun j => j = bs) w w' ∧ w'.heap[bs]? = some (iobj (insR l row).2.1) := by
  obtain ⟨P, K, X, _, e0, c⟩ := ins_pg hF row hrs
  rw [e0]
  have cI := c w
  have hlt := lt_of_some hs
  have d0 : w.cell? ⟨br, 0, none⟩ = some (.string row) := by simp [World.cell?, hr, sobj]
  have f0 : ∀ w' : World, w'.heap[bs]? = some (iobj k0) → w'.frozen? ⟨bs, 0, none⟩ = false := fun w' h => by simp [World.frozen?, h, iobj]
  have g0 : ∀ w' : World, w'.heap[bs]? = some (iobj k0) → w'.cell? ⟨bs, 0, none⟩ = some (.int .i64 k0) := fun w' h => by simp [World.cell?, h, iobj]
  clear c e0 hF hr
  go_enter Tryz.func122, Tryz.ntmps122
  go_wp2_with fail
  refine cI.mono ?_
  rintro e w1 ⟨rfl, b1⟩
  have hs1 : w1.heap[bs]? = some (iobj k0) := (b1.block bs hlt).trans hs
  have f1 := f0 w1 hs1
  have g1 := g0 w1 hs1
  have ho := heap_setCell_same w1 bs 0 _ _ (.int .i64 K) hs1
  clear cI f0 g0 hs hs1
  go_wp2_with fail
  go_ret2
  exact ⟨rfl, Fr.set (F := fun j => j = bs) (Fr.of_below b1) (p := ⟨bs, 0, none⟩) (Or.inl rfl) _, ho⟩

set_option maxHeartbeats 1600000 in
set_option maxRecDepth 100000 in
theorem insertAt_any (h : Hs W w hb p g bd n m V [0] z E) (hbd : bd ≤ 7000000) (hm : 2 ≤ m) (ok : Vok n V H) (i : Nat) (h1 : 1 ≤ i) (h2 : i < n) (row : ByteArray) (hrs : row.size ≤ 1000000) (hW : W.heap.size ≤ w.heap.size) :
    Calls Tryz.prog 89 #[.pointer (some ⟨hb, 0, none⟩), .string (V 0), .int .i64 (i : Int), .string row] w fun e w' =>
      (e = .returned (.tuple #[.int .i64 0, .int .i64 42]) ∧ ¬ z ∧ Hs W w' hb p g (bd + 6) n m V [0] z E) ∨ (insE (H i) row ≠ 0 ∧ e = .returned (.tuple #[.int .i64 0, .int .i64 (insE (H i) row)]) ∧ Hs W w' hb p g (bd + 6) n m V [0] z E) ∨
        (insE (H i) row = 0 ∧ e = .returned (.tuple #[.int .i64 (first (H i) : Int), .int .i64 0]) ∧ ∃ V', Vok n V' (updH H i (insL (H i) row)) ∧ Hs W w' hb p g (bd + 6) n m V' [0] z E) := by
  have hmf : ∀ (fn : Fn) (first cap : Array Value) (w : World), (Instr.makeFunc fn first cap).run Tryz.prog w = .ok (.func fn first cap) w := fun _ _ _ _ => rfl
  have hF := ok.fine i
  have hhb := lt_of_some h.hbAt
  have t1 := h.alloc (sobj row)
  have t2 := t1.alloc (iobj 0)
  have hE : ∀ y ∈ E, y.1 < w.heap.size := fun y hy => lt_of_some (h.at hy)
  have hsz : (w.alloc (sobj row)).heap.size = w.heap.size + 1 := by simp
  rw [hsz] at t2
  have cT : ∀ w1, Hs W w1 hb p g (bd + 2) n m V [i, 0] z ((w.heap.size + 1, iobj 0) :: (w.heap.size, sobj row) :: E) → Calls Tryz.prog 122 (#[.string (V i)] ++ #[.pointer (some ⟨w.heap.size, 0, none⟩), .pointer (some ⟨w.heap.size + 1, 0, none⟩)]) w1 fun e w' => e = .returned (.tuple #[.string (insR (H i) row).1, .int .i64 (insR (H i) row).2.2]) ∧ Hs W w' hb p g (bd + 2) n m V [i, 0] z ((w.heap.size + 1, iobj (insR (H i) row).2.1) :: (w.heap.size, sobj row) :: E) := by
    intro w1 t
    rw [ok.pg i h1 h2]
    refine (insTurn (H i) hF row hrs w.heap.size (w.heap.size + 1) 0 w1 (t.at (by simp)) (t.at (by simp))).mono ?_
    rintro e w' ⟨rfl, f, ho⟩
    refine ⟨rfl, t.put (by omega) (fun y hy => ?_) (by omega) f ho⟩
    rcases List.mem_cons.1 hy with e | q
    · rw [e]; simp
    · have := hE y q; omega
  have cC := change_any t2 hbd hm ok i h1 h2 122 #[.pointer (some ⟨w.heap.size, 0, none⟩), .pointer (some ⟨w.heap.size + 1, 0, none⟩)] (by go_simp) (insL (H i) row) (insR (H i) row).1 (insR (H i) row).2.2 (fun hx => by
    unfold insR at hx ⊢
    by_cases q : insE (H i) row = 0
    · rw [if_pos q]; exact ⟨rfl, ins_fine hF row q⟩
    · rw [if_neg q] at hx; exact absurd hx q) cT
  have hR : (insR (H i) row).2.2 = insE (H i) row ∧ (insE (H i) row ≠ 0 → (insR (H i) row).2.1 = 0) ∧ (insE (H i) row = 0 → (insR (H i) row).2.1 = (first (H i) : Int)) := by
    unfold insR
    by_cases q : insE (H i) row = 0
    · rw [if_pos q]; exact ⟨q.symm, fun z => absurd q z, fun _ => rfl⟩
    · rw [if_neg q]; exact ⟨rfl, fun _ => rfl, fun z => absurd z q⟩
  have HR := (show Hid _ from hR)
  clear hR cT t1 t2 h ok hF hE hsz
  go_enter Tryz.func89, Tryz.ntmps89
  go_wp2_with fail
  refine cC.mono ?_
  rintro e w3 ⟨Y, rfl, ⟨q⟩⟩
  clear cC
  have hk : ∃ k, w3.cell? ⟨w.heap.size + 1, 0, none⟩ = some (.int .i64 k) ∧ ((k = 0 ∧ Y = 42 ∧ ¬ z ∧ Hs W w3 hb p g (bd + 6) n m V [0] z E) ∨ (k = 0 ∧ Y = insE (H i) row ∧ insE (H i) row ≠ 0 ∧ Hs W w3 hb p g (bd + 6) n m V [0] z E) ∨ (k = (first (H i) : Int) ∧ Y = 0 ∧ insE (H i) row = 0 ∧ ∃ V', Vok n V' (updH H i (insL (H i) row)) ∧ Hs W w3 hb p g (bd + 6) n m V' [0] z E)) := by
    rcases q with ⟨q1, q2, q3⟩ | ⟨q1, q2, q3⟩ | ⟨q1, q2, V', q3, q4⟩
    · have := q3.at (k := w.heap.size + 1) (o := iobj 0) (by simp)
      exact ⟨0, by simp [World.cell?, this, iobj], Or.inl ⟨rfl, q1, q2, q3.less (fun y hy => by simp [hy])⟩⟩
    · have := q3.at (k := w.heap.size + 1) (o := iobj (insR (H i) row).2.1) (by simp)
      rw [HR.out.1] at q1 q2
      rw [HR.out.2.1 q1] at this
      exact ⟨0, by simp [World.cell?, this, iobj], Or.inr (Or.inl ⟨rfl, q2, q1, q3.less (fun y hy => by simp [hy])⟩)⟩
    · have := q4.at (k := w.heap.size + 1) (o := iobj (insR (H i) row).2.1) (by simp)
      rw [HR.out.1] at q1
      rw [HR.out.2.2 q1] at this
      exact ⟨_, by simp [World.cell?, this, iobj], Or.inr (Or.inr ⟨rfl, q2, q1, V', q3, q4.less (fun y hy => by simp [hy])⟩)⟩
  obtain ⟨k, hk1, hk2⟩ := hk
  clear q
  have HK := (show Hid _ from hk2)
  clear hk2
  go_wp2_with fail
  go_ret2
  rcases HK.out with ⟨rfl, rfl, nz, t⟩ | ⟨rfl, rfl, x, t⟩ | ⟨rfl, rfl, x, t⟩
  · exact Or.inl ⟨rfl, nz, t⟩
  · exact Or.inr (Or.inl ⟨x, rfl, t⟩)
  · exact Or.inr (Or.inr ⟨x, rfl, t⟩)

set_option maxHeartbeats 1600000 in
set_option maxRecDepth 100000 in
theorem insertAt_err (h : Hs W w hb p g bd n m V A z E) (bits row : ByteArray) (i Y : Int) (hY : Y ≠ 0)
    (cP : ∀ w1 F, Hs W w1 hb p g bd n m V A z F → Calls Tryz.prog 83 #[.pointer (some ⟨p, 0, none⟩), .int .i64 i] w1 fun e w' => e = .returned (.tuple #[.string ⟨#[]⟩, .int .i64 Y]) ∧ Hs W w' hb p g (bd + 2) n m V A z F) :
    Calls Tryz.prog 89 #[.pointer (some ⟨hb, 0, none⟩), .string bits, .int .i64 i, .string row] w fun e w' => e = .returned (.tuple #[.int .i64 0, .int .i64 Y]) ∧ Hs W w' hb p g (bd + 2) n m V A z E := by
  have hmf : ∀ (fn : Fn) (first cap : Array Value) (w : World), (Instr.makeFunc fn first cap).run Tryz.prog w = .ok (.func fn first cap) w := fun _ _ _ _ => rfl
  have t1 := h.alloc (sobj row)
  have t2 := t1.alloc (iobj 0)
  have hsz : (w.alloc (sobj row)).heap.size = w.heap.size + 1 := by simp
  rw [hsz] at t2
  have cC := change_err bits (.func (.func 122) #[] #[.pointer (some ⟨w.heap.size, 0, none⟩), .pointer (some ⟨w.heap.size + 1, 0, none⟩)]) i Y hY t2.cell _ (cP _ _ t2)
  clear cP t1 t2 h hsz
  go_enter Tryz.func89, Tryz.ntmps89
  go_wp2_with fail
  refine cC.mono ?_
  rintro e w3 ⟨rfl, t3⟩
  have hk := t3.at (k := w.heap.size + 1) (o := iobj 0) (by simp)
  have hk1 : w3.cell? ⟨w.heap.size + 1, 0, none⟩ = some (.int .i64 0) := by simp [World.cell?, hk, iobj]
  clear cC hk
  go_wp2_with fail
  go_ret2
  exact ⟨rfl, t3.less (fun y hy => by simp [hy])⟩
end
end Go.Proofs.YtkjioabhdglkpaaGreat
end

section
namespace Go.Proofs.YtkjioabhdglkpaaGreat
open Go.RowKit

section
variable {W w w' : World} {hb p g bd n m : Nat} {V : Nat → ByteArray} {H : Hp} {A : List Nat} {z : Prop} {E E' : List (Nat × Obj)}

/-- What Insert tells and leaves. -/
structure Insd (W w' : World) (hb p g bd n m : Nat) (V : Nat → ByteArray) (H : Hp) (row : ByteArray) (z : Prop) (E : List (Nat × Obj)) (K X : Int) : Prop where
  out : (K = 0 ∧ X = 42 ∧ ¬ z ∧ Hs W w' hb p g bd n m V [] z E) ∨ (K = insHK n H row ∧ X = insHX n H row ∧ ∃ V', Vok n V' (insHH n H row) ∧ Hs W w' hb p g bd n m V' [] z E)

set_option maxHeartbeats 800000 in
theorem insert_nil (row : ByteArray) (w : World) : Calls Tryz.prog 62 #[.pointer none, .string row] w fun e w' => e = .returned (.tuple #[.int .i64 0, .int .i64 1]) ∧ w' = w := by
  go_enter_defers Tryz.func62, Tryz.ntmps62
  go_wp2_with fail
  go_step3
  go_wp2_with fail
  rw [Exit.noGoto_ret]
  exact ⟨_, results_tmp2 rfl _ _ _, rfl, rfl⟩

set_option maxHeartbeats 1600000 in
set_option maxRecDepth 100000 in
theorem insert_any (h : Hs W w hb p g bd n m V [] z E) (hbd : bd ≤ 5000000) (hm : 2 ≤ m) (ok : Vok n V H) (row : ByteArray) (hrs : row.size ≤ 1000000) :
    Calls Tryz.prog 62 #[.pointer (some ⟨hb, 0, none⟩), .string row] w fun e w' => ∃ K X, e = .returned (.tuple #[.int .i64 K, .int .i64 X]) ∧ Insd W w' hb p g (bd + 6 * n + 10) n m V H row z E K X := by
  have c0 := h.cell
  by_cases hl : 400 < row.size
  · have hl2 : decide ((400 : Int) < (row.size : Int)) = true := by simp; omega
    have hr : insHK n H row = 0 ∧ insHX n H row = 2 ∧ insHH n H row = H := by
      unfold insHK insHX insHH
      rw [if_pos hl, if_pos hl, if_pos hl]
      exact ⟨rfl, rfl, rfl⟩
    have HI : Hid (Insd W w hb p g (bd + 6 * n + 10) n m V H row z E 0 2) := ⟨Or.inr ⟨hr.1.symm, hr.2.1.symm, V, by rw [hr.2.2]; exact ok, h.mono (by omega)⟩⟩
    clear hr ok h
    go_enter_defers Tryz.func62, Tryz.ntmps62
    go_wp2_with fail
    go_step3
    go_wp2_with fail
    rw [Exit.noGoto_ret]
    exact ⟨_, results_tmp2 rfl _ _ _, _, _, rfl, HI.out⟩
  · have hl2 : decide ((400 : Int) < (row.size : Int)) = false := by simp; omega
    have cP := h.pin (by omega) (by show 0 < m; omega) 0 (by have := ok.n.1; omega) (by simp)
    have OK := (show Hid _ from ok)
    clear h ok hl
    go_enter_defers Tryz.func62, Tryz.ntmps62
    go_wp2_with fail
    go_step3
    go_wp2_with fail
    refine cP.mono ?_
    rintro e w1 (⟨rfl, t1⟩ | ⟨rfl, nz, t1⟩)
    · have c1 := t1.cell
      clear cP
      go_wp2_with fail
      go_step3
      go_wp2_with fail
      go_loopw [8] (fun sa wr => ∃ a : Nat, 1 ≤ a ∧ a ≤ n ∧ n ≤ 1000 ∧ sa = .int .i64 (a : Int) ∧ Hid (∀ j, 1 ≤ j → j < a → insE (H j) row ≠ 0) ∧ Hs W wr hb p g (bd + 2 + 6 * (a - 1)) n m V [0] z E) (fun sa _ => 4096 - (intOf sa).toNat)
      case atStart => exact ⟨1, Nat.le_refl _, OK.out.n.1, OK.out.n.2, rfl, (fun j a b => absurd b (by omega)), t1⟩
      case round =>
        obtain ⟨a, ha1, ha2, hn, rfl, hj, t⟩ := hrel
        have a4 : decide ((a : Int) ≤ 4095) = true := by simp; omega
        have hWr := t.bel.size
        have cR := t.cell
        have h400 : row.size ≤ 400 := by have := of_decide_eq_false hl2; omega
        clear t1
        have cU : ∀ (b : Nat) (V : Nat → ByteArray) (w : World), b ≤ 8000000 → Hs W w hb p g b n m V [0] z E → CallsD Tryz.prog 84 #[.pointer (some ⟨p, 0, none⟩), .int .i64 0] .returning w fun e u' w' => u' = .returning ∧ e = .returned (.int .i64 0) ∧ Hs W w' hb p g (b + 1) n m V [] z E :=
          fun b V w hb' t => t.unpinD .returning hb' (k := 0) (by simp) [] (by intro j hj; simp [hj]) (by simp)
        by_cases hlt : a < n
        · have cI := insertAt_any t (by omega) hm OK.out a ha1 hlt row hrs hWr
          have hfl : first (H a) < 1000 := by
            have := first_le (H a)
            have := few (OK.out.fine a).room
            omega
          clear t
          rcases insE_few (H a) row h400 with eI | eI
          · rw [eI] at cI
            have HR : Hid (insHK n H row = 128 * (a : Int) + (first (H a) : Int) ∧ insHX n H row = 0 ∧ insHH n H row = updH H a (insL (H a) row)) := by
              have hlow := low_some (n := n) ha1 hlt eI hj.out
              show _ ∧ _ ∧ _
              unfold insHK insHX insHH
              rw [hlow, if_neg (by omega), if_neg (by omega), if_neg (by omega)]
              exact ⟨rfl, rfl, rfl⟩
            clear eI
            go_wp2_with fail
            refine cI.mono ?_
            rintro e w3 (⟨rfl, nz, t3⟩ | ⟨x, rfl, t3⟩ | ⟨x, rfl, V', ok', t3⟩)
            · clear cI
              go_wp2_with fail
              rw [Exit.noGoto_ret]
              refine leaves_cons (f := 84) (args := #[.pointer (some ⟨p, 0, none⟩), .int .i64 0]) (by simp) (by simp [go_sem]) ?_
              refine (cU _ _ _ (by omega) t3).mono ?_
              rintro e u' w'' ⟨rfl, rfl, q⟩
              exact ⟨_, results_tmp2 rfl _ _ _, _, _, rfl, ⟨Or.inl ⟨rfl, rfl, nz, q.mono (by omega)⟩⟩⟩
            · exact absurd rfl x
            · clear cI
              have OK' := (show Hid _ from ok')
              have cJ := join_any a (first (H a)) (by omega) hfl w3
              clear ok'
              go_wp2_with fail
              refine cJ.mono ?_
              rintro e w4 ⟨rfl, hw4⟩
              rw [hw4]
              clear hw4 cJ
              go_wp2_with fail
              rw [Exit.noGoto_ret]
              refine leaves_cons (f := 84) (args := #[.pointer (some ⟨p, 0, none⟩), .int .i64 0]) (by simp) (by simp [go_sem]) ?_
              refine (cU _ _ _ (by omega) t3).mono ?_
              rintro e u' w'' ⟨rfl, rfl, q⟩
              exact ⟨_, results_tmp2 rfl _ _ _, _, _, rfl, ⟨Or.inr ⟨HR.out.1.symm, HR.out.2.1.symm, V', by rw [HR.out.2.2]; exact OK'.out, q.mono (by omega)⟩⟩⟩
          · rw [eI] at cI
            have HJ : Hid (∀ j, 1 ≤ j → j < a + 1 → insE (H j) row ≠ 0) := fun j h1 h2 => by
              by_cases e : j = a
              · rw [e, eI]; decide
              · exact hj.out j h1 (by omega)
            clear eI
            go_wp2_with fail
            refine cI.mono ?_
            rintro e w3 (⟨rfl, nz, t3⟩ | ⟨x, rfl, t3⟩ | ⟨x, rfl, V', ok', t3⟩)
            · clear cI
              go_wp2_with fail
              rw [Exit.noGoto_ret]
              refine leaves_cons (f := 84) (args := #[.pointer (some ⟨p, 0, none⟩), .int .i64 0]) (by simp) (by simp [go_sem]) ?_
              refine (cU _ _ _ (by omega) t3).mono ?_
              rintro e u' w'' ⟨rfl, rfl, q⟩
              exact ⟨_, results_tmp2 rfl _ _ _, _, _, rfl, ⟨Or.inl ⟨rfl, rfl, nz, q.mono (by omega)⟩⟩⟩
            · clear cI
              go_wp2_with fail
              go_roundw
              case rel => exact ⟨a + 1, by omega, by omega, by omega, by go_num, HJ, t3.mono (by omega)⟩
              case measure => simp [intOf]; omega
            · exact absurd x (by decide)
        · obtain rfl : a = n := by omega
          have cI := insertAt_err t (V 0) row (a : Int) 40 (by decide) (fun w1 F t => t.pinOut (by omega) (a : Int) (by omega))
          have HR : Hid (insHK a H row = 0 ∧ insHX a H row = 50 ∧ insHH a H row = H) := by
            have hlow := low_none (n := a) hj.out
            show _ ∧ _ ∧ _
            unfold insHK insHX insHH
            rw [hlow, if_neg (by omega), if_neg (by omega), if_neg (by omega)]
            exact ⟨rfl, rfl, rfl⟩
          clear t
          go_wp2_with fail
          refine cI.mono ?_
          rintro e w3 ⟨rfl, t3⟩
          clear cI
          go_wp2_with fail
          rw [Exit.noGoto_ret]
          refine leaves_cons (f := 84) (args := #[.pointer (some ⟨p, 0, none⟩), .int .i64 0]) (by simp) (by simp [go_sem]) ?_
          refine (cU _ _ _ (by omega) t3).mono ?_
          rintro e u' w'' ⟨rfl, rfl, q⟩
          exact ⟨_, results_tmp2 rfl _ _ _, _, _, rfl, ⟨Or.inr ⟨HR.out.1.symm, HR.out.2.1.symm, V, by rw [HR.out.2.2]; exact OK.out, q.mono (by omega)⟩⟩⟩
    · clear cP
      go_wp2_with fail
      rw [Exit.noGoto_ret]
      exact ⟨_, results_tmp2 rfl _ _ _, _, _, rfl, ⟨Or.inl ⟨rfl, rfl, nz, t1.mono (by omega)⟩⟩⟩
end
end Go.Proofs.YtkjioabhdglkpaaGreat
end

section
namespace Go.Proofs.YtkjioabhdglkpaaGreat
open Go.RowKit

def tobj (fv : Value) : Obj := .cells #[fv] 164 (0, 0)

section
variable {W w w' : World} {hb p g bd n m : Nat} {V : Nat → ByteArray} {H : Hp} {A : List Nat} {z : Prop} {E E' : List (Nat × Obj)}

/-- What alter tells and leaves. -/
structure Altd (W w' : World) (hb p g bd n m : Nat) (V : Nat → ByteArray) (H : Hp) (i : Nat) (l' : List Sl) (z : Prop) (E : List (Nat × Obj)) (X Y : Int) : Prop where
  out : (Y = 42 ∧ ¬ z ∧ Hs W w' hb p g bd n m V [] z E) ∨ (X ≠ 0 ∧ Y = X ∧ Hs W w' hb p g bd n m V [] z E) ∨ (X = 0 ∧ Y = 0 ∧ ∃ V', Vok n V' (updH H i l') ∧ Hs W w' hb p g bd n m V' [] z E)

set_option maxHeartbeats 800000 in
set_option maxRecDepth 100000 in
theorem altTurn (s : ByteArray) (k : Nat) (sl : Int) (ca : Array Value) (hk : ∀ (av : Array Value) (w : World), (callFunc k av).run Tryz.prog w = .ok (.enter k av) w) (bt bl : Nat) (w : World) (ht : w.heap[bt]? = some (tobj (.func (.func k) #[] ca))) (hl : w.heap[bl]? = some (iobj sl)) (R : Value → World → Prop)
    (c : Calls Tryz.prog k (#[.string s, .int .i64 sl] ++ ca) w fun e w' => ∃ P X, e = .returned (.tuple #[.string P, .int .i64 X]) ∧ R (.tuple #[.string P, .int .i64 X]) w') :
    Calls Tryz.prog 119 (#[.string s] ++ #[.pointer (some ⟨bt, 0, none⟩), .pointer (some ⟨bl, 0, none⟩)]) w fun e w' => ∃ P X, e = .returned (.tuple #[.string P, .int .i64 X]) ∧ R (.tuple #[.string P, .int .i64 X]) w' := by
  have d0 : w.cell? ⟨bt, 0, none⟩ = some (.func (.func k) #[] ca) := by simp [World.cell?, ht, tobj]
  have d1 : w.cell? ⟨bl, 0, none⟩ = some (.int .i64 sl) := by simp [World.cell?, hl, iobj]
  clear ht hl
  go_enter Tryz.func119, Tryz.ntmps119
  go_wp2_with fail
  refine c.mono ?_
  rintro e w1 ⟨P, X, rfl, hR⟩
  clear c
  go_wp2_with fail
  go_ret2
  exact ⟨P, X, rfl, hR⟩

set_option maxHeartbeats 800000 in
theorem alter_nil (k : Int) (kt : Nat) (cat : Array Value) (w : World) : Calls Tryz.prog 87 #[.pointer none, .int .i64 k, .func (.func kt) #[] cat] w fun e w' => e = .returned (.int .i64 1) ∧ Below w.heap.size w w' := by
  go_enter_defers Tryz.func87, Tryz.ntmps87
  go_wp2_with fail
  exact ⟨_, results_tmp rfl _ _ _, rfl, below_alloc1 w _⟩

set_option maxHeartbeats 800000 in
theorem alter_no (k : Int) (kt : Nat) (cat : Array Value) (hk : k < 128 ∨ 524288 ≤ k ∨ 126 < k.tmod 128) (w : World) : Calls Tryz.prog 87 #[.pointer (some ⟨hb, 0, none⟩), .int .i64 k, .func (.func kt) #[] cat] w fun e w' => e = .returned (.int .i64 60) ∧ Below w.heap.size w w' := by
  have cS := split_no k hk
  clear hk
  go_enter_defers Tryz.func87, Tryz.ntmps87
  go_wp2_with fail
  refine (cS _).mono ?_
  rintro e w1 ⟨rfl, hw1⟩
  rw [hw1]
  clear hw1 cS
  go_wp2_with fail
  refine ⟨_, results_tmp rfl _ _ _, rfl, ?_⟩
  exact below2 (below_alloc1 w _) (below_alloc1 _ _)

set_option maxHeartbeats 1600000 in
set_option maxRecDepth 100000 in
theorem alter_any (h : Hs W w hb p g bd n m V [] z E) (hbd : bd ≤ 6000000) (hm : 2 ≤ m) (ok : Vok n V H) (k : Int) (i s : Nat) (hks : k = 128 * (i : Int) + (s : Int)) (h1 : 1 ≤ i) (h2 : i < n) (hs : s ≤ 126) (kt : Nat) (cat : Array Value) (hkt : ∀ (av : Array Value) (w : World), (callFunc kt av).run Tryz.prog w = .ok (.enter kt av) w)
    (l' : List Sl) (P : ByteArray) (X : Int) (hX : X ≠ 40) (hP : X = 0 → P = Go.Proofs.YtkjioabhdglkpaaGreat.pg l' ∧ Fine l') (cF : ∀ w1 : World, (∀ y ∈ E, w1.heap[y.1]? = some y.2) → Calls Tryz.prog kt (#[.string (V i), .int .i64 (s : Int)] ++ cat) w1 fun e w' => e = .returned (.tuple #[.string P, .int .i64 X]) ∧ Below w1.heap.size w1 w') :
    Calls Tryz.prog 87 #[.pointer (some ⟨hb, 0, none⟩), .int .i64 k, .func (.func kt) #[] cat] w fun e w' => ∃ Y, e = .returned (.int .i64 Y) ∧ Altd W w' hb p g (bd + 9) n m V H i l' z E X Y := by
  have hmf : ∀ (fn : Fn) (first cap : Array Value) (w : World), (Instr.makeFunc fn first cap).run Tryz.prog w = .ok (.func fn first cap) w := fun _ _ _ _ => rfl
  have hn := ok.n.2
  have hWs := h.bel.size
  have cS := split_ok k i s hks h1 (by omega) hs
  have hhb := lt_of_some h.hbAt
  have hE : ∀ y ∈ E, y.1 < w.heap.size := fun y hy => lt_of_some (h.at hy)
  have t1 := h.alloc (tobj (.func (.func kt) #[] cat))
  have t3 := t1.alloc (iobj (s : Int))
  have hsz : (w.alloc (tobj (.func (.func kt) #[] cat))).heap.size = w.heap.size + 1 := by simp
  rw [hsz] at t3
  have c3 := t3.cell
  have cP := t3.pin (by omega) (by show 0 < m; omega) 0 (by omega) (by simp)
  have cC := fun w1 (t : Hs W w1 hb p g (bd + 2) n m V [0] z ((w.heap.size + 1, iobj (s : Int)) :: (w.heap.size, tobj (.func (.func kt) #[] cat)) :: E)) => change_any t (by omega) hm ok i h1 h2 119 #[.pointer (some ⟨w.heap.size, 0, none⟩), .pointer (some ⟨w.heap.size + 1, 0, none⟩)] (by go_simp) l' P X hP (fun w1 t => by
    refine (altTurn (V i) kt (s : Int) cat hkt w.heap.size (w.heap.size + 1) w1 (t.at (by simp)) (t.at (by simp)) (fun v w' => v = .tuple #[.string P, .int .i64 X] ∧ Below w1.heap.size w1 w') ((cF w1 (fun y hy => t.at (by simp [hy]))).mono ?_)).mono ?_
    · rintro e w' ⟨rfl, b⟩
      exact ⟨P, X, rfl, rfl, b⟩
    · rintro e w' ⟨P', X', rfl, e2, b⟩
      exact ⟨by rw [e2], t.below b⟩)
  clear t1 t3 h ok hE hsz cF hP hks
  go_enter_defers Tryz.func87, Tryz.ntmps87
  go_wp2_with fail
  refine (cS _).mono ?_
  rintro e w1 ⟨rfl, hw1⟩
  rw [hw1]
  clear hw1 cS
  go_upto_region 4 with fail
  generalize hw3 : (w.alloc (.cells #[.func (.func kt) #[] cat] 164)).alloc (.cells #[.int .i64 (s : Int)] 3) = w3
  have e3 : (w.alloc (tobj (.func (.func kt) #[] cat))).alloc (iobj (s : Int)) = w3 := hw3
  rw [e3] at c3 cP
  clear hw3 e3
  generalize hEE : (w.heap.size + 1, iobj (s : Int)) :: (w.heap.size, tobj (.func (.func kt) #[] cat)) :: E = EE at *
  have HE : Hid (∀ (b : Nat) (V' : Nat → ByteArray) (A : List Nat) (w' : World), Hs W w' hb p g b n m V' A z EE → Hs W w' hb p g b n m V' A z E) := fun b V' A w' t => t.less (fun y hy => by rw [← hEE]; simp [hy])
  clear hEE
  go_wp2_with fail
  refine cP.mono ?_
  rintro e w4 (⟨rfl, t4⟩ | ⟨rfl, nz, t4⟩)
  · have c4 := t4.cell
    have cC4 := cC w4 t4
    clear cC cP t4
    go_wp2_with fail
    refine cC4.mono ?_
    rintro e w5 ⟨Y, rfl, ⟨q⟩⟩
    have cN := none_any Y w5
    have hY : (if Y = 40 then 60 else Y) = Y := by
      rw [if_neg]
      rintro rfl
      rcases q with ⟨q, _⟩ | ⟨_, q, _⟩ | ⟨_, q, _⟩
      · exact absurd q (by decide)
      · exact hX q.symm
      · exact absurd q (by decide)
    rw [hY] at cN
    have HQ := (show Hid _ from q)
    clear cC4 q hY
    go_wp2_with fail
    refine cN.mono ?_
    rintro e w6 ⟨rfl, hw6⟩
    rw [hw6]
    clear hw6 cN
    go_wp2_with fail
    refine leaves_cons (f := 84) (args := #[.pointer (some ⟨p, 0, none⟩), .int .i64 0]) (by simp) (by simp [go_sem]) ?_
    have cU : ∀ (b : Nat) (V : Nat → ByteArray) (w : World), b ≤ 8000000 → Hs W w hb p g b n m V [0] z EE → CallsD Tryz.prog 84 #[.pointer (some ⟨p, 0, none⟩), .int .i64 0] .returning w fun e u' w' => u' = .returning ∧ e = .returned (.int .i64 0) ∧ Hs W w' hb p g (b + 1) n m V [] z EE :=
      fun b V w hb' t => t.unpinD .returning hb' (k := 0) (by simp) [] (by intro j hj; simp [hj]) (by simp)
    rcases HQ.out with ⟨rfl, nz, t⟩ | ⟨x, rfl, t⟩ | ⟨x, rfl, V', ok', t⟩
    · refine (cU _ _ _ (by omega) t).mono ?_
      rintro e u' w'' ⟨rfl, rfl, q⟩
      exact ⟨_, results_tmp rfl _ _ _, _, rfl, ⟨Or.inl ⟨rfl, nz, (HE.out _ _ _ _ q).mono (by omega)⟩⟩⟩
    · refine (cU _ _ _ (by omega) t).mono ?_
      rintro e u' w'' ⟨rfl, rfl, q⟩
      exact ⟨_, results_tmp rfl _ _ _, _, rfl, ⟨Or.inr (Or.inl ⟨x, rfl, (HE.out _ _ _ _ q).mono (by omega)⟩)⟩⟩
    · refine (cU _ _ _ (by omega) t).mono ?_
      rintro e u' w'' ⟨rfl, rfl, q⟩
      exact ⟨_, results_tmp rfl _ _ _, _, rfl, ⟨Or.inr (Or.inr ⟨x, rfl, V', ok', (HE.out _ _ _ _ q).mono (by omega)⟩)⟩⟩
  · clear cP cC
    go_wp2_with fail
    exact ⟨_, results_tmp rfl _ _ _, _, rfl, ⟨Or.inl ⟨rfl, nz, (HE.out _ _ _ _ t4).mono (by omega)⟩⟩⟩

set_option maxHeartbeats 1600000 in
set_option maxRecDepth 100000 in
/-- A place of a page that the device has not. -/
theorem alter_far (h : Hs W w hb p g bd n m V [] z E) (hbd : bd ≤ 6000000) (hm : 2 ≤ m) (hn : 1 ≤ n ∧ n ≤ 1000) (k : Int) (i s : Nat) (hks : k = 128 * (i : Int) + (s : Int)) (h1 : 1 ≤ i) (h2 : i < 4096) (hni : n ≤ i) (hs : s ≤ 126) (kt : Nat) (cat : Array Value) :
    Calls Tryz.prog 87 #[.pointer (some ⟨hb, 0, none⟩), .int .i64 k, .func (.func kt) #[] cat] w fun e w' => (e = .returned (.int .i64 60) ∧ Hs W w' hb p g (bd + 9) n m V [] z E) ∨ (e = .returned (.int .i64 42) ∧ ¬ z ∧ Hs W w' hb p g (bd + 9) n m V [] z E) := by
  have hmf : ∀ (fn : Fn) (first cap : Array Value) (w : World), (Instr.makeFunc fn first cap).run Tryz.prog w = .ok (.func fn first cap) w := fun _ _ _ _ => rfl
  have cS := split_ok k i s hks h1 h2 hs
  have t1 := h.alloc (tobj (.func (.func kt) #[] cat))
  have t3 := t1.alloc (iobj (s : Int))
  have hsz : (w.alloc (tobj (.func (.func kt) #[] cat))).heap.size = w.heap.size + 1 := by simp
  rw [hsz] at t3
  have c3 := t3.cell
  have cP := t3.pin (by omega) (by show 0 < m; omega) 0 (by omega) (by simp)
  have cC := fun w1 (t : Hs W w1 hb p g (bd + 2) n m V [0] z ((w.heap.size + 1, iobj (s : Int)) :: (w.heap.size, tobj (.func (.func kt) #[] cat)) :: E)) => change_err (V 0) (.func (.func 119) #[] #[.pointer (some ⟨w.heap.size, 0, none⟩), .pointer (some ⟨w.heap.size + 1, 0, none⟩)]) (i : Int) 40 (by decide) t.cell _ (t.pinOut (by omega) (i : Int) (by omega))
  clear t1 t3 h hsz hks
  go_enter_defers Tryz.func87, Tryz.ntmps87
  go_wp2_with fail
  refine (cS _).mono ?_
  rintro e w1 ⟨rfl, hw1⟩
  rw [hw1]
  clear hw1 cS
  go_upto_region 4 with fail
  generalize hw3 : (w.alloc (.cells #[.func (.func kt) #[] cat] 164)).alloc (.cells #[.int .i64 (s : Int)] 3) = w3
  have e3 : (w.alloc (tobj (.func (.func kt) #[] cat))).alloc (iobj (s : Int)) = w3 := hw3
  rw [e3] at c3 cP
  clear hw3 e3
  generalize hEE : (w.heap.size + 1, iobj (s : Int)) :: (w.heap.size, tobj (.func (.func kt) #[] cat)) :: E = EE at *
  have HE : Hid (∀ (b : Nat) (V' : Nat → ByteArray) (A : List Nat) (w' : World), Hs W w' hb p g b n m V' A z EE → Hs W w' hb p g b n m V' A z E) := fun b V' A w' t => t.less (fun y hy => by rw [← hEE]; simp [hy])
  clear hEE
  go_wp2_with fail
  refine cP.mono ?_
  rintro e w4 (⟨rfl, t4⟩ | ⟨rfl, nz, t4⟩)
  · have c4 := t4.cell
    have cC4 := cC w4 t4
    clear cC cP t4
    go_wp2_with fail
    refine cC4.mono ?_
    rintro e w5 ⟨rfl, t5⟩
    have cN := none_any 40 w5
    rw [if_pos rfl] at cN
    clear cC4
    go_wp2_with fail
    refine cN.mono ?_
    rintro e w6 ⟨rfl, hw6⟩
    rw [hw6]
    clear hw6 cN
    go_wp2_with fail
    refine leaves_cons (f := 84) (args := #[.pointer (some ⟨p, 0, none⟩), .int .i64 0]) (by simp) (by simp [go_sem]) ?_
    refine (t5.unpinD .returning (by omega) (k := 0) (by simp) [] (by intro j hj; simp [hj]) (by simp)).mono ?_
    rintro e u' w'' ⟨rfl, rfl, q⟩
    exact ⟨_, results_tmp rfl _ _ _, Or.inl ⟨rfl, (HE.out _ _ _ _ q).mono (by omega)⟩⟩
  · clear cP cC
    go_wp2_with fail
    exact ⟨_, results_tmp rfl _ _ _, Or.inr ⟨rfl, nz, (HE.out _ _ _ _ t4).mono (by omega)⟩⟩
end
end Go.Proofs.YtkjioabhdglkpaaGreat
end

section
namespace Go.Proofs.YtkjioabhdglkpaaGreat
open Go.RowKit

theorem delE_none {l : List Sl} {k : Int} (h : rowAt l k = none) : delE l k = 60 := by unfold delE; rw [h]
theorem putE_none {l : List Sl} {k : Int} (h : rowAt l k = none) (row : ByteArray) : putE l k row = 60 := by unfold putE; rw [h]
theorem rowAt_nil (k : Int) : rowAt [] k = none := by unfold rowAt; split <;> rfl

/-- What stands at a place. -/
def PlaceAt (n : Nat) (k : Int) : Prop :=
  (k < 128 ∨ 524288 ≤ k ∨ 126 < k.tmod 128) ∨ (∃ i s : Nat, k = 128 * (i : Int) + (s : Int) ∧ 1 ≤ i ∧ i < 4096 ∧ n ≤ i ∧ s ≤ 126) ∨ ∃ i s : Nat, k = 128 * (i : Int) + (s : Int) ∧ 1 ≤ i ∧ i < n ∧ s ≤ 126

theorem place_at (n : Nat) (k : Int) : PlaceAt n k := by
  by_cases h : k < 128 ∨ 524288 ≤ k ∨ 126 < k.tmod 128
  · exact Or.inl h
  · have h1 : 128 ≤ k := by omega
    have h2 : k < 524288 := by omega
    have h3 : ¬ 126 < k.tmod 128 := fun q => h (Or.inr (Or.inr q))
    rw [Int.tmod_eq_emod_of_nonneg (by omega)] at h3
    by_cases q : k / 128 < (n : Int)
    · exact Or.inr (Or.inr ⟨(k / 128).toNat, (k % 128).toNat, by omega, by omega, by omega, by omega⟩)
    · exact Or.inr (Or.inl ⟨(k / 128).toNat, (k % 128).toNat, by omega, by omega, by omega, by omega, by omega⟩)

section
variable {n : Nat} {V : Nat → ByteArray} {H : Hp}
theorem row_no (ok : Vok n V H) {k : Int} (h : k < 128 ∨ 524288 ≤ k ∨ 126 < k.tmod 128) : rowAt (pgOf n H k) (k.tmod 128) = none := by
  have hn := ok.n.2
  unfold pgOf
  split
  · rename_i q
    have h3 : 126 < k.tmod 128 := by omega
    have hf := few (ok.fine (k / 128).toNat).room
    have h4 : 127 ≤ (k.tmod 128).toNat := by omega
    unfold rowAt
    rw [if_pos (by omega), List.getElem?_eq_none (by omega)]
    rfl
  · exact rowAt_nil _
theorem pg_far {k : Int} {i s : Nat} (e : k = 128 * (i : Int) + (s : Int)) (hs : s ≤ 126) (hn : n ≤ i) : pgOf n H k = [] := by
  unfold pgOf
  rw [if_neg (by omega)]
theorem pg_near {k : Int} {i s : Nat} (e : k = 128 * (i : Int) + (s : Int)) (hs : s ≤ 126) (h1 : 1 ≤ i) (h2 : i < n) : pgOf n H k = H i ∧ k.tmod 128 = (s : Int) ∧ (k / 128).toNat = i := by
  have e1 : (k / 128).toNat = i := by omega
  refine ⟨?_, ?_, e1⟩
  · unfold pgOf
    rw [if_pos (by omega), e1]
  · rw [Int.tmod_eq_emod_of_nonneg (by omega)]
    omega
end

section
variable {W w w' : World} {hb p g bd n m : Nat} {V : Nat → ByteArray} {H : Hp} {A : List Nat} {z : Prop} {E E' : List (Nat × Obj)}

/-- What a change tells and leaves. -/
structure Mutd (W w' : World) (hb p g bd n m : Nat) (V : Nat → ByteArray) (H' : Hp) (z : Prop) (E : List (Nat × Obj)) (X Y : Int) : Prop where
  out : (Y = 42 ∧ ¬ z ∧ Hs W w' hb p g bd n m V [] z E) ∨ (Y = X ∧ ∃ V', Vok n V' H' ∧ Hs W w' hb p g bd n m V' [] z E)

theorem Altd.mut {i : Nat} {l' : List Sl} {X Y : Int} (h : Altd W w' hb p g bd n m V H i l' z E X Y) (ok : Vok n V H) (H' : Hp) (h0 : X = 0 → H' = updH H i l') (h1 : X ≠ 0 → H' = H) : Mutd W w' hb p g bd n m V H' z E X Y := by
  rcases h.out with q | ⟨x, rfl, t⟩ | ⟨x, rfl, V', ok', t⟩
  · exact ⟨Or.inl q⟩
  · exact ⟨Or.inr ⟨rfl, V, by rw [h1 x]; exact ok, t⟩⟩
  · exact ⟨Or.inr ⟨x.symm, V', by rw [h0 x]; exact ok', t⟩⟩

/-- The change of any place by a turn. -/
theorem alter_all (h : Hs W w hb p g bd n m V [] z E) (hbd : bd ≤ 6000000) (hm : 2 ≤ m) (ok : Vok n V H) (k : Int) (kt : Nat) (cat : Array Value) (hkt : ∀ (av : Array Value) (w : World), (callFunc kt av).run Tryz.prog w = .ok (.enter kt av) w) (X : Int) (H' : Hp)
    (hno : rowAt (pgOf n H k) (k.tmod 128) = none → X = 60 ∧ H' = H)
    (hne : ∀ i s : Nat, k = 128 * (i : Int) + (s : Int) → 1 ≤ i → i < n → s ≤ 126 → X ≠ 40 ∧ ∃ (l' : List Sl) (P : ByteArray), (X = 0 → P = Go.Proofs.YtkjioabhdglkpaaGreat.pg l' ∧ Fine l' ∧ H' = updH H i l') ∧ (X ≠ 0 → H' = H) ∧ ∀ w1 : World, (∀ y ∈ E, w1.heap[y.1]? = some y.2) → Calls Tryz.prog kt (#[.string (Go.Proofs.YtkjioabhdglkpaaGreat.pg (H i)), .int .i64 (s : Int)] ++ cat) w1 fun e w' => e = .returned (.tuple #[.string P, .int .i64 X]) ∧ Below w1.heap.size w1 w') :
    Calls Tryz.prog 87 #[.pointer (some ⟨hb, 0, none⟩), .int .i64 k, .func (.func kt) #[] cat] w fun e w' => ∃ Y, e = .returned (.int .i64 Y) ∧ Mutd W w' hb p g (bd + 9) n m V H' z E X Y := by
  rcases place_at n k with hk | ⟨i, s, e, h1, h2, hn, hs⟩ | ⟨i, s, e, h1, h2, hs⟩
  · obtain ⟨rfl, rfl⟩ := hno (row_no ok hk)
    refine (alter_no k kt cat hk w).mono ?_
    rintro e w' ⟨rfl, b⟩
    exact ⟨_, rfl, ⟨Or.inr ⟨rfl, V, ok, (h.below b).mono (by omega)⟩⟩⟩
  · obtain ⟨rfl, rfl⟩ := hno (by rw [pg_far e hs hn]; exact rowAt_nil _)
    refine (alter_far h hbd hm ok.n k i s e h1 h2 hn hs kt cat).mono ?_
    rintro e w' (⟨rfl, t⟩ | ⟨rfl, nz, t⟩)
    · exact ⟨_, rfl, ⟨Or.inr ⟨rfl, V, ok, t⟩⟩⟩
    · exact ⟨_, rfl, ⟨Or.inl ⟨rfl, nz, t⟩⟩⟩
  · obtain ⟨hX, l', P, a, b, c⟩ := hne i s e h1 h2 hs
    refine (alter_any h hbd hm ok k i s e h1 h2 hs kt cat hkt l' P X hX (fun q => ⟨(a q).1, (a q).2.1⟩) (fun w1 q => by rw [ok.pg i h1 h2]; exact c w1 q)).mono ?_
    rintro e w' ⟨Y, rfl, q⟩
    exact ⟨Y, rfl, q.mut ok H' (fun x => (a x).2.2) b⟩

set_option maxHeartbeats 800000 in
theorem delete_any (h : Hs W w hb p g bd n m V [] z E) (hbd : bd ≤ 6000000) (hm : 2 ≤ m) (ok : Vok n V H) (k : Int) :
    Calls Tryz.prog 61 #[.pointer (some ⟨hb, 0, none⟩), .int .i64 k] w fun e w' => ∃ Y, e = .returned (.int .i64 Y) ∧ Mutd W w' hb p g (bd + 9) n m V (delHH n H k) z E (delHX n H k) Y := by
  have c := alter_all h hbd hm ok k 88 #[] (by go_simp) (delHX n H k) (delHH n H k) (fun q => by
    have e : delHX n H k = 60 := delE_none q
    refine ⟨e, ?_⟩
    unfold delHH
    rw [if_neg (by rw [e]; decide)]) (fun i s e h1 h2 hs => by
    obtain ⟨e1, e2, e3⟩ := pg_near (H := H) e hs h1 h2
    have eX : delHX n H k = delE (H i) (s : Int) := by unfold delHX; rw [e1, e2]
    have eH : delHH n H k = if delE (H i) (s : Int) = 0 then updH H i (delL (H i) (s : Int)) else H := by unfold delHH; rw [eX, e1, e2, e3]
    obtain ⟨P, X, o, hX, c⟩ := del_pg (ok.fine i) (s : Int) (by unfold i64ok; omega)
    rw [eX, eH]
    refine ⟨by unfold delE; split <;> decide, delL (H i) (s : Int), P, fun q => ?_, fun q => by rw [if_neg q], fun w1 _ => ?_⟩
    · rcases o with ⟨_, o2, o3⟩ | ⟨o1, _, _⟩
      · unfold delN at o2 o3
        rw [if_pos q] at o2 o3
        exact ⟨o2, o3, by rw [if_pos q]⟩
      · exact absurd (hX.trans q) o1
    · rw [← hX]
      exact c w1)
  go_enter Tryz.func61, Tryz.ntmps61
  go_wp2_with fail
  refine c.mono ?_
  rintro e w1 ⟨Y, rfl, q⟩
  have HQ := (show Hid _ from q)
  clear c q
  go_wp2_with fail
  go_ret
  exact ⟨Y, rfl, HQ.out⟩

theorem Mutd.less {F : List (Nat × Obj)} {H' : Hp} {X Y : Int} (h : Mutd W w' hb p g bd n m V H' z E X Y) (hs : ∀ y ∈ F, y ∈ E) : Mutd W w' hb p g bd n m V H' z F X Y := by
  rcases h.out with ⟨a, b, c⟩ | ⟨a, V', b, c⟩
  · exact ⟨Or.inl ⟨a, b, c.less hs⟩⟩
  · exact ⟨Or.inr ⟨a, V', b, c.less hs⟩⟩

set_option maxHeartbeats 800000 in
set_option maxRecDepth 100000 in
theorem get_heap (h : Hs W w hb p g bd n m V [] z E) (hbd : bd ≤ 6000000) (hm : 1 ≤ m) (ok : Vok n V H) (hz : z) (k : Int) :
    Calls Tryz.prog 81 #[.pointer (some ⟨hb, 0, none⟩), .int .i64 k] w fun e w' => e = .returned (.tuple #[.string (getHS n H k), .int .i64 (delHX n H k)]) ∧ Hs W w' hb p g (bd + 3) n m V [] z E := by
  rcases place_at n k with hk | ⟨i, s, e, h1, h2, hn, hs⟩ | ⟨i, s, e, h1, h2, hs⟩
  · have e1 : delHX n H k = 60 := delE_none (row_no ok hk)
    have e2 : getHS n H k = ⟨#[]⟩ := by unfold getHS; rw [row_no ok hk]; rfl
    rw [e1, e2]
    have cS := split_no k hk w
    have HS := (show Hid _ from h.mono (Nat.le_add_right bd 3))
    clear h ok hk e1 e2
    go_enter Tryz.func81, Tryz.ntmps81
    go_wp2_with fail
    refine cS.mono ?_
    rintro e w1 ⟨rfl, hw1⟩
    rw [hw1]
    clear hw1 cS
    go_wp2_with fail
    go_ret2
    exact ⟨rfl, HS.out⟩
  · have hr : rowAt (pgOf n H k) (k.tmod 128) = none := by rw [pg_far e hs hn]; exact rowAt_nil _
    have e1 : delHX n H k = 60 := delE_none hr
    have e2 : getHS n H k = ⟨#[]⟩ := by unfold getHS; rw [hr]; rfl
    rw [e1, e2]
    have cS := split_ok k i s e h1 h2 hs w
    have cL := look_out h (by omega) (i : Int) (by omega)
    clear h ok e hr e1 e2
    go_enter Tryz.func81, Tryz.ntmps81
    go_wp2_with fail
    refine cS.mono ?_
    rintro e w1 ⟨rfl, hw1⟩
    rw [hw1]
    clear hw1 cS
    go_wp2_with fail
    refine cL.mono ?_
    rintro e w2 ⟨rfl, t2⟩
    have cN := none_any 40 w2
    rw [if_pos rfl] at cN
    clear cL
    go_wp2_with fail
    refine cN.mono ?_
    rintro e w3 ⟨rfl, hw3⟩
    rw [hw3]
    clear hw3 cN
    go_wp2_with fail
    go_ret2
    exact ⟨rfl, t2⟩
  · obtain ⟨e1, e2, e3⟩ := pg_near (H := H) e hs h1 h2
    have eX : delHX n H k = delE (H i) (s : Int) := by unfold delHX; rw [e1, e2]
    have eG : getHS n H k = rowOf (rowAt (H i) (s : Int)) := by unfold getHS; rw [e1, e2]
    have hn := ok.n.2
    have cS := split_ok k i s e h1 (by omega) hs w
    have cL := look_any h (by omega) hm i h2
    have cG := get_pg (ok.fine i) (s : Int) (by unfold i64ok; omega)
    rw [← eX, ← eG, ← ok.pg i h1 h2] at cG
    generalize delHX n H k = X at *
    generalize getHS n H k = G at *
    clear h ok e e1 e2 e3 eX eG
    go_enter Tryz.func81, Tryz.ntmps81
    go_wp2_with fail
    refine cS.mono ?_
    rintro e w1 ⟨rfl, hw1⟩
    rw [hw1]
    clear hw1 cS
    go_wp2_with fail
    refine cL.mono ?_
    rintro e w2 (⟨rfl, t2⟩ | ⟨_, nz, _⟩)
    · have cG2 := cG w2
      clear cL cG
      go_wp2_with fail
      refine cG2.mono ?_
      rintro e w3 ⟨rfl, b3⟩
      have t3 := t2.below b3
      clear cG2 t2 b3
      go_wp2_with fail
      go_ret2
      exact ⟨rfl, t3⟩
    · exact absurd hz nz
end
end Go.Proofs.YtkjioabhdglkpaaGreat
end

section
namespace Go.Proofs.YtkjioabhdglkpaaGreat
open Go.RowKit

theorem pagesN_step (H : Hp) (a : Nat) (ha : 1 ≤ a) : pagesN (a + 1) H = pagesN a H ++ (if (H a).isEmpty then [] else [(a : Int)]) := by
  unfold pagesN
  rw [pgsN_succ a ha, List.filter_append, List.map_append]
  congr 1
  cases h : (H a).isEmpty <;> simp [h]
theorem pagesN_len (H : Hp) (a : Nat) : (pagesN a H).length ≤ a := by
  unfold pagesN pgsN
  rw [List.length_map]
  have := List.length_filter_le (fun i => !(H i).isEmpty) (List.range' 1 (a - 1))
  rw [List.length_range'] at this
  omega
theorem pagesN_out {n : Nat} {V : Nat → ByteArray} {H : Hp} (ok : Vok n V H) (d : Nat) : pagesN (n + d) H = pagesN n H := by
  induction d with
  | zero => rfl
  | succ d ih =>
    rw [← Nat.add_assoc, pagesN_step H (n + d) (by have := ok.n.1; omega), ih, ok.out (n + d) (Or.inr (by omega))]
    simp

/-- Blocks of others are changed, or new. -/
theorem Q1.swap {W w w' : World} {p g bd : Nat} {S : St} {E E' : List (Nat × Obj)} {F : Nat → Prop} (h : Q1 W w p g bd S E) (f : Fr F w w') (hF : ∀ k, F k → W.heap.size ≤ k ∧ ∃ o, (k, o) ∈ E) (hE : ∀ y ∈ E', w'.heap[y.1]? = some y.2 ∧ (w.heap.size ≤ y.1 ∨ ∃ o, (y.1, o) ∈ E)) : Q1 W w' p g bd S E' := by
  obtain ⟨x, e1, e2, e3, e4, e5, e6⟩ := h.ex
  refine ⟨⟨x, e1, e2, e3, e4.kept (fun j hj => f.block j (e4.lt hj) (fun q => ?_)), e5, fun y hy => ⟨(hE y hy).1, fun q => ?_⟩⟩, f.below h.bel h.bel.size (fun k q => (hF k q).1)⟩
  · obtain ⟨_, o, ho⟩ := hF j q
    exact (e6 _ ho).2 hj
  · rcases (hE y hy).2 with r | ⟨o, ho⟩
    · have := e4.lt q
      omega
    · exact (e6 _ ho).2 q

section
variable {W w w' : World} {hb p g bd n m : Nat} {V : Nat → ByteArray} {H : Hp} {A : List Nat} {z : Prop} {E E' : List (Nat × Obj)}

theorem Hs.swap {F : Nat → Prop} (h : Hs W w hb p g bd n m V A z E) (f : Fr F w w') (hF : ∀ k, F k → W.heap.size ≤ k ∧ k ≠ hb ∧ ∃ o, (k, o) ∈ E) (hE : ∀ y ∈ E', w'.heap[y.1]? = some y.2 ∧ (w.heap.size ≤ y.1 ∨ ∃ o, (y.1, o) ∈ E)) : Hs W w' hb p g bd n m V A z E' := by
  have hh := h.hbAt
  obtain ⟨S, a, r⟩ := h.ex
  refine ⟨S, a.swap f (fun k q => ?_) (fun y hy => ?_), r⟩
  · obtain ⟨x, _, o, ho⟩ := hF k q
    exact ⟨x, o, List.mem_cons_of_mem _ ho⟩
  · rcases List.mem_cons.1 hy with e | q
    · rw [e]
      refine ⟨(f.block hb (lt_of_some hh) (fun q => (hF hb q).2.1 rfl)).trans hh, Or.inr ⟨hobj p, by simp⟩⟩
    · obtain ⟨x, y⟩ := hE y q
      exact ⟨x, y.imp id (fun ⟨o, ho⟩ => ⟨o, List.mem_cons_of_mem _ ho⟩)⟩

/-- The block of a row, with what it holds. -/
def evOf (w : World) (v : Value) : List (Nat × Obj) := match v.ownBlock with
  | none => []
  | some k => match w.heap[k]? with
    | none => []
    | some o => [(k, o)]
theorem evOf_at {w : World} {v : Value} {y : Nat × Obj} (h : y ∈ evOf w v) : v.ownBlock = some y.1 ∧ w.heap[y.1]? = some y.2 := by
  unfold evOf at h
  split at h
  · cases h
  · rename_i k hk
    split at h
    · cases h
    · rename_i o ho
      rw [List.mem_singleton] at h
      rw [h]
      exact ⟨hk, ho⟩
theorem evOf_mem {w : World} {v : Value} {k : Nat} (h : v.ownBlock = some k) (hl : k < w.heap.size) : ∃ o, (k, o) ∈ evOf w v := by
  refine ⟨w.heap[k], ?_⟩
  unfold evOf
  rw [h]
  simp only
  rw [Array.getElem?_eq_getElem hl]
  simp
theorem evOf_same {w w' : World} {v : Value} (h : ∀ k, v.ownBlock = some k → w'.heap[k]? = w.heap[k]?) : evOf w' v = evOf w v := by
  unfold evOf
  cases hv : v.ownBlock with
  | none => rfl
  | some k => simp only; rw [h k hv]

/-- A heap, and a row of numbers beside it that is being told. -/
structure Told (W w : World) (hb p g bd n m : Nat) (V : Nat → ByteArray) (z : Prop) (E : List (Nat × Obj)) (v : Value) (L : List Int) : Prop where
  hs : Hs W w hb p g bd n m V [] z (evOf w v ++ E)
  row : IRow w W.heap.size v L
  off : ∀ k, v.ownBlock = some k → k ≠ hb ∧ ∀ y ∈ E, y.1 ≠ k

theorem Told.nil (h : Hs W w hb p g bd n m V [] z E) : Told W w hb p g bd n m V z E (.slice none 0 0) [] :=
  ⟨by simpa [evOf, Value.ownBlock] using h, irow_nil _ _, fun k hk => by simp [Value.ownBlock] at hk⟩
theorem Told.move {v : Value} {L : List Int} {bd' : Nat} {V' : Nat → ByteArray} (h : Told W w hb p g bd n m V z E v L) (t : Hs W w' hb p g bd' n m V' [] z (evOf w v ++ E)) : Told W w' hb p g bd' n m V' z E v L := by
  have hk : ∀ k, v.ownBlock = some k → w'.heap[k]? = w.heap[k]? := fun k hk => by
    obtain ⟨o, ho⟩ := evOf_mem hk (h.row.blk hk).2
    rw [t.at (List.mem_append_left _ ho), (evOf_at ho).2]
  exact ⟨by rw [evOf_same hk]; exact t, h.row.kept hk, h.off⟩
theorem Told.below {v : Value} {L : List Int} (h : Told W w hb p g bd n m V z E v L) (b : Below w.heap.size w w') : Told W w' hb p g bd n m V z E v L := h.move (h.hs.below b)
theorem Told.mono {v : Value} {L : List Int} {c : Nat} (h : Told W w hb p g bd n m V z E v L) (hc : bd ≤ c) : Told W w hb p g c n m V z E v L := ⟨h.hs.mono hc, h.row, h.off⟩
theorem Told.base {v : Value} {L : List Int} (h : Told W w hb p g bd n m V z E v L) : Hs W w hb p g bd n m V [] z E := h.hs.less (fun _ hy => List.mem_append_right _ hy)
theorem Told.app {v v' : Value} {L L' : List Int} (h : Told W w hb p g bd n m V z E v L) (r : IRow w' W.heap.size v' L') (f : Fr (fun k => v.ownBlock = some k) w w') (hn : ∀ k, v'.ownBlock = some k → v.ownBlock = some k ∨ w.heap.size ≤ k) : Told W w' hb p g bd n m V z E v' L' := by
  have hE : ∀ y ∈ E, w.heap[y.1]? = some y.2 := fun y hy => h.hs.at (List.mem_append_right _ hy)
  refine ⟨h.hs.swap f (fun k hk => ?_) (fun y hy => ?_), r, fun k hk => ?_⟩
  · obtain ⟨o, ho⟩ := evOf_mem hk (h.row.blk hk).2
    exact ⟨(h.row.blk hk).1, (h.off k hk).1, o, List.mem_append_left _ ho⟩
  · rcases List.mem_append.1 hy with q | q
    · obtain ⟨q1, q2⟩ := evOf_at q
      refine ⟨q2, ?_⟩
      rcases hn _ q1 with r | r
      · obtain ⟨o, ho⟩ := evOf_mem r (h.row.blk r).2
        exact Or.inr ⟨o, List.mem_append_left _ ho⟩
      · exact Or.inl r
    · exact ⟨(f.block _ (lt_of_some (hE y q)) (fun e => (h.off _ e).2 y q rfl)).trans (hE y q), Or.inr ⟨y.2, List.mem_append_right _ q⟩⟩
  · rcases hn k hk with q | q
    · exact h.off k q
    · have := lt_of_some h.hs.hbAt
      exact ⟨by omega, fun _ hy e => by have := lt_of_some (hE _ hy); omega⟩
theorem Told.fresh {v : Value} {L : List Int} (h : Hs W w hb p g bd n m V [] z E) (b : Below w.heap.size w w') (r : IRow w' w.heap.size v L) : Told W w' hb p g bd n m V z E v L := by
  have t := Told.nil h
  exact t.app (r.mono h.bel.size) (Fr.of_below b) (fun _ hk => Or.inr (r.blk hk).1)

set_option maxHeartbeats 1600000 in
set_option maxRecDepth 100000 in
theorem pages_any (h : Hs W w hb p g bd n m V [] z E) (hbd : bd ≤ 6000000) (hm : 1 ≤ m) (ok : Vok n V H) (hz : z) :
    Calls Tryz.prog 32 #[.pointer (some ⟨hb, 0, none⟩)] w fun e w' => ∃ v, e = .returned (.tuple #[v, .int .i64 0]) ∧ Told W w' hb p g (bd + 3) n m V z E v (pagesN n H) := by
  have cL := look_any h (by omega) hm 0 (by have := ok.n.1; omega)
  have hmsz := ok.msz
  have HM : Hid (∀ a, a < 4096 → bit (V 0) a = !(H a).isEmpty) := ok.map
  have HO : Hid (pagesN 4096 H = pagesN n H) := by
    have := pagesN_out ok (4096 - n)
    rw [show n + (4096 - n) = 4096 by have := ok.n.2; omega] at this
    exact this
  clear h ok
  generalize V 0 = M at *
  go_enter Tryz.func32, Tryz.ntmps32
  go_wp2_with fail
  refine cL.mono ?_
  rintro e w1 (⟨rfl, t1⟩ | ⟨_, nz, _⟩)
  · have hw1 := t1.bel.size
    clear cL
    go_wp2_with fail
    go_loopw [6, 7] (fun st sa wr => ∃ a : Nat, 1 ≤ a ∧ a ≤ 4096 ∧ sa = .int .i64 (a : Int) ∧ IRow wr w1.heap.size st (pagesN a H) ∧ Below w1.heap.size w1 wr) (fun _ sa _ => 4096 - (intOf sa).toNat)
    case atStart => exact ⟨1, Nat.le_refl _, by omega, rfl, irow_nil _ _, Below.refl _ _⟩
    case round =>
      obtain ⟨a, ha1, ha2, rfl, hrow, hb1⟩ := hrel
      obtain ⟨ta, tc, rfl, htc, _⟩ := hrow.len
      by_cases hlt : a < 4096
      · have hlt2 : decide ((a : Int) ≤ 4095) = true := by simp; omega
        have cM := marked_any M a hmsz hlt wr
        have hst := pagesN_step H a ha1
        have hul := pagesN_len H a
        rw [HM.out a hlt] at cM
        cases hq : (H a).isEmpty with
        | true =>
          rw [hq] at cM hst
          have HS : Hid (pagesN (a + 1) H = pagesN a H) := by show _ = _; rw [hst]; simp
          clear hst hq t1
          generalize hA : pagesN a H = A at *
          go_wp2_with fail
          refine cM.mono ?_
          rintro e w2 ⟨rfl, b2⟩
          clear cM
          go_wp2_with fail
          go_roundw
          case rel => exact ⟨a + 1, by omega, by omega, by go_num, by rw [HS.out]; exact hrow.below' b2, below2 hb1 b2⟩
          case measure => simp [intOf]; omega
        | false =>
          rw [hq] at cM hst
          have HS : Hid (pagesN (a + 1) H = pagesN a H ++ [(a : Int)]) := by show _ = _; rw [hst]; simp
          clear hst hq t1
          generalize hA : pagesN a H = A at *
          go_wp2_with fail
          refine cM.mono ?_
          rintro e w2 ⟨rfl, b2⟩
          clear cM
          have r2 := hrow.below' b2
          have hb2 := below2 hb1 b2
          have hb3 := below2 hb2 (below_alloc1 w2 (.cells #[.int .i64 (a : Int)] 3))
          have r3 := r2.below' (below_alloc1 w2 (.cells #[.int .i64 (a : Int)] 3))
          go_wp2_with (at_builtin; refine wpList_append_int _ rfl _ _ rfl w1.heap.size _ A [(a : Int)] rfl r3 ⟨w2.heap.size, 0, none⟩ 1 (by simp; rfl) (one_src _ _ (by simp)) (by simp; omega) hb3.size ?_; intro v' w' hrow' hfr hnew)
          go_roundw
          case rel => exact ⟨a + 1, by omega, by omega, by go_num, by rw [HS.out]; exact hrow', hfr.below hb3 hb3.size (fun k e => (hrow.blk e).1)⟩
          case measure => simp [intOf]; omega
      · obtain rfl : a = 4096 := by omega
        have hlt2 : decide (((4096 : Nat) : Int) ≤ 4095) = false := by decide
        go_wp2_with fail
        go_ret2
        exact ⟨_, rfl, by rw [← HO.out]; exact Told.fresh t1 hb1 hrow⟩
  · exact absurd hz nz

/-- The places of a page. -/
def placesOf (H : Hp) (i : Nat) : List Int := (slotsF (H i) 0).map (fun s => 128 * (i : Int) + s)
theorem placesN_eq (n : Nat) (H : Hp) : placesN n H = ((pgsN n).filter (fun i => !(H i).isEmpty)).flatMap (placesOf H) := by
  unfold placesN
  generalize pgsN n = L
  induction L with
  | nil => rfl
  | cons i L ih =>
    rw [List.flatMap_cons, ih, List.filter_cons]
    cases hq : (H i).isEmpty with
    | true =>
      have : H i = [] := by simpa using hq
      simp [this, slotsF]
    | false => rfl
theorem placesOf_len {n : Nat} {V : Nat → ByteArray} {H : Hp} (ok : Vok n V H) (i : Nat) : (placesOf H i).length ≤ 127 := by
  unfold placesOf
  rw [List.length_map]
  have := slotsF_len (H i) 0
  have := few (ok.fine i).room
  omega
theorem flat_len {n : Nat} {V : Nat → ByteArray} {H : Hp} (ok : Vok n V H) (L : List Nat) : (L.flatMap (placesOf H)).length ≤ 127 * L.length := by
  induction L with
  | nil => simp
  | cons i L ih =>
    rw [List.flatMap_cons, List.length_append, List.length_cons]
    have := placesOf_len ok i
    omega
theorem flat_take (H : Hp) (L : List Nat) (j i : Nat) (hj : L[j]? = some i) : (L.take (j + 1)).flatMap (placesOf H) = (L.take j).flatMap (placesOf H) ++ placesOf H i := by
  rw [List.take_add_one, hj, List.flatMap_append]
  simp
theorem slotsF_mem (l : List Sl) : ∀ (i : Nat) (x : Int), x ∈ slotsF l i → ∃ k : Nat, x = (k : Int) ∧ k < i + l.length := by
  induction l with
  | nil => intro i x h; cases h
  | cons s l ih =>
    intro i x h
    cases s with
    | none =>
      obtain ⟨k, e, hk⟩ := ih (i + 1) x h
      exact ⟨k, e, by simp; omega⟩
    | some r =>
      rcases List.mem_cons.1 h with e | q
      · exact ⟨i, e, by simp⟩
      · obtain ⟨k, e, hk⟩ := ih (i + 1) x q
        exact ⟨k, e, by simp; omega⟩

set_option maxHeartbeats 3200000 in
set_option maxRecDepth 100000 in
theorem places_any (h : Hs W w hb p g bd n m V [] z E) (hbd : bd ≤ 6000000) (hm : 1 ≤ m) (ok : Vok n V H) (hn : n ≤ 500) (hz : z) :
    Calls Tryz.prog 31 #[.pointer (some ⟨hb, 0, none⟩)] w fun e w' => ∃ v, e = .returned (.tuple #[v, .int .i64 0]) ∧ Told W w' hb p g (bd + 3 * n + 6) n m V z E v (placesN n H) := by
  have cP := pages_any h hbd hm ok hz
  have OK := (show Hid _ from ok)
  have HN : Hid (((pgsN n).filter (fun i => !(H i).isEmpty)).flatMap (placesOf H) = placesN n H) := (placesN_eq n H).symm
  have HL : Hid (∀ i ∈ (pgsN n).filter (fun i => !(H i).isEmpty), 1 ≤ i ∧ i < n) := fun i hi => mem_pgs.1 (List.mem_filter.1 hi).1
  have hlen : ((pgsN n).filter (fun i => !(H i).isEmpty)).length ≤ n := by
    have := List.length_filter_le (fun i => !(H i).isEmpty) (pgsN n)
    have e : (pgsN n).length = n - 1 := by unfold pgsN; rw [List.length_range']
    omega
  have hpn : pagesN n H = ((pgsN n).filter (fun i => !(H i).isEmpty)).map (fun i : Nat => (i : Int)) := rfl
  clear h ok
  generalize (pgsN n).filter (fun i => !(H i).isEmpty) = L at *
  rw [hpn] at cP
  clear hpn
  go_enter Tryz.func31, Tryz.ntmps31
  go_wp2_with fail
  refine cP.mono ?_
  rintro e w1 ⟨vl, rfl, tl⟩
  obtain ⟨la, lc, rfl, hlc, _⟩ := tl.row.len
  rw [List.length_map] at hlc
  have TL := (show Hid _ from tl)
  have t1 := Told.nil tl.hs
  clear cP tl
  rw [List.length_map] at *
  have HV : Hid (∀ (wr : World) (v : Value) (b : Nat), Hs W wr hb p g b n m V [] z (evOf wr v ++ (evOf w1 (.slice la L.length lc) ++ E)) → IRow wr W.heap.size (.slice la L.length lc) (L.map (fun i : Nat => (i : Int)))) := fun wr v b t => TL.out.row.kept (fun k hk => by
    obtain ⟨o, ho⟩ := evOf_mem hk (TL.out.row.blk hk).2
    rw [t.at (List.mem_append_right _ (List.mem_append_left _ ho)), (evOf_at ho).2])
  have HE : Hid (∀ y ∈ E, y ∈ evOf w1 (.slice la L.length lc) ++ E) := fun y hy => List.mem_append_right _ hy
  clear TL
  generalize evOf w1 (.slice la L.length lc) ++ E = EE at *
  go_wp2_with fail
  go_loopw [6, 23] (fun st sj wr => ∃ j : Nat, j ≤ L.length ∧ sj = .int .i64 (j : Int) ∧ Told W wr hb p g (bd + 3 + 3 * j) n m V z EE st ((L.take j).flatMap (placesOf H))) (fun _ sj _ => L.length - (intOf sj).toNat)
  case atStart => exact ⟨0, Nat.zero_le _, rfl, by simpa using t1⟩
  case round =>
    clear t1
    obtain ⟨j, hj, rfl, t⟩ := hrel
    by_cases hlt : j < L.length
    · have hlt2 : (j : Int) < (L.length : Int) := by omega
      have hx : L[j]? = some L[j] := by simp [hlt]
      generalize L[j] = i at hx
      obtain ⟨hi1, hi2⟩ := HL.out i (List.mem_of_getElem? hx)
      have hrow := HV.out wr _ _ t.hs
      obtain ⟨lb, lc', e, _, _, _, cl⟩ := hrow.cell (i := j) (x := (i : Int)) (by rw [List.getElem?_map, hx]; rfl)
      obtain ⟨ta, tc, rfl, _, _⟩ := t.row.len
      rw [List.length_map] at e
      cases e
      have cK := look_any t.hs (by have := hlen; omega) hm i hi2
      rw [OK.out.pg i hi1 hi2] at cK
      have cG := good_pg (OK.out.fine i)
      have cS := fun w => slots_pg (OK.out.fine i) _ rfl w
      have hft := flat_take H L j i hx
      have HF : Hid ((L.take (j + 1)).flatMap (placesOf H) = (L.take j).flatMap (placesOf H) ++ (slotsF (H i) 0).map (fun s => 128 * (i : Int) + s)) := hft
      have hfl := flat_len OK.out (L.take j)
      rw [List.length_take] at hfl
      have hsm := slotsF_mem (H i) 0
      have hsl := slotsF_len (H i) 0
      have hf7 := few (OK.out.fine i).room
      have HM : Hid (∀ x ∈ slotsF (H i) 0, ∃ k : Nat, x = (k : Int) ∧ k < 127) := fun x hx => by
        obtain ⟨k, e, hk⟩ := hsm x hx
        exact ⟨k, e, by omega⟩
      have hS7 : (slotsF (H i) 0).length ≤ 127 := by omega
      clear hft hrow hsm hsl hf7
      generalize slotsF (H i) 0 = S at *
      generalize pg (H i) = PG at *
      generalize (L.take j).flatMap (placesOf H) = T at *
      go_wp2_with fail
      refine cK.mono ?_
      rintro e w2 (⟨rfl, t2⟩ | ⟨_, nz, _⟩)
      · have u2 := t.move t2
        have cG2 := cG w2
        clear cK cG t t2
        go_wp2_with fail
        refine cG2.mono ?_
        rintro e w3 ⟨rfl, b3⟩
        have u3 := u2.below b3
        have cS3 := cS w3
        clear cG2 cS b3 u2
        go_wp2_with fail
        refine cS3.mono ?_
        rintro e w4 ⟨vs, rfl, rs, b4⟩
        obtain ⟨sa, sc, rfl, _, _⟩ := rs.len
        have u4 := u3.below b4
        have hoff : ∀ b, (Value.slice ta T.length tc).ownBlock = some b → (Value.slice sa S.length sc).ownBlock ≠ some b := fun b hb q => by
          have h1 := (u3.row.blk hb).2
          have h2 := (rs.blk q).1
          omega
        have HOf := (show Hid _ from hoff)
        clear cS3 b4 u3 hoff
        go_wp2_with fail
        go_loopw [6, 44] (fun st sk wr2 => ∃ k : Nat, k ≤ S.length ∧ sk = .int .i64 (k : Int) ∧ Told W wr2 hb p g (bd + 3 + 3 * j + 3) n m V z EE st (T ++ (S.take k).map (fun s => 128 * (i : Int) + s)) ∧ IRow wr2 w3.heap.size (.slice sa S.length sc) S ∧ Hid (∀ b, st.ownBlock = some b → (Value.slice sa S.length sc).ownBlock ≠ some b)) (fun _ sk _ => S.length - (intOf sk).toNat)
        case atStart => exact ⟨0, Nat.zero_le _, rfl, by simpa using u4, rs, HOf⟩
        case round =>
          clear u4 rs
          obtain ⟨k, hk, rfl, u, r, ho⟩ := hrel
          by_cases hkl : k < S.length
          · have hkl2 : (k : Int) < (S.length : Int) := by omega
            have hx : S[k]? = some S[k] := by simp [hkl]
            generalize S[k] = x at hx
            obtain ⟨q, rfl, hq⟩ := HM.out x (List.mem_of_getElem? hx)
            obtain ⟨ua, uc, rfl, _, _⟩ := u.row.len
            obtain ⟨sb, sc', e, _, _, hsb, cs⟩ := r.cell hx
            cases e
            have cJ := join_any i q (by omega) (by omega) wr
            have hst : (S.take (k + 1)).map (fun s => 128 * (i : Int) + s) = (S.take k).map (fun s => 128 * (i : Int) + s) ++ [128 * (i : Int) + (q : Int)] := by
              rw [List.take_add_one, hx, List.map_append]
              rfl
            have HSt : Hid (T ++ (S.take (k + 1)).map (fun s => 128 * (i : Int) + s) = (T ++ (S.take k).map (fun s => 128 * (i : Int) + s)) ++ [128 * (i : Int) + (q : Int)]) := by show _ = _; rw [hst, List.append_assoc]
            have hul : (T ++ (S.take k).map (fun s => 128 * (i : Int) + s)).length ≤ 90000 := by
              rw [List.length_append, List.length_map, List.length_take]
              omega
            clear hst
            generalize T ++ (S.take k).map (fun s => 128 * (i : Int) + s) = U at *
            generalize hxx : 128 * (i : Int) + (q : Int) = X at *
            have u2 := u.below (below_alloc1 wr (.cells #[.int .i64 X] 3))
            have r2 := r.below' (below_alloc1 wr (.cells #[.int .i64 X] 3))
            go_wp2_with fail
            refine cJ.mono ?_
            rintro e w5 ⟨rfl, hw5⟩
            rw [hw5]
            clear hw5 cJ
            go_wp2_with (at_builtin; refine wpList_append_int _ rfl _ _ rfl W.heap.size _ U [X] rfl u2.row ⟨wr.heap.size, 0, none⟩ 1 (by simp; rfl) (one_src _ _ (by simp)) (by simp; omega) u2.hs.bel.size ?_; intro v' w' hrow' hfr hnew)
            go_roundw
            case rel =>
              refine ⟨k + 1, by omega, by go_num, by rw [HSt.out]; exact u2.app hrow' hfr hnew, r2.kept (fun b hb => hfr.block b (r2.blk hb).2 (fun e => ho.out b e hb)), fun b hb hc => ?_⟩
              rcases hnew b hb with z1 | z1
              · exact ho.out b z1 hc
              · have := (r2.blk hc).2
                omega
            case measure => simp [intOf]; omega
          · obtain rfl : k = S.length := by omega
            rw [List.take_length] at u
            rw [← HF.out] at u
            have hkl2 : decide ((S.length : Int) < (S.length : Int)) = false := by simp
            go_wp2_with fail
            go_roundw
            case rel => exact ⟨j + 1, by omega, by go_num, u.mono (by omega)⟩
            case measure => simp [intOf]; omega
      · exact absurd hz nz
    · obtain rfl : j = L.length := by omega
      rw [List.take_length] at t
      have hlt2 : decide ((L.length : Int) < (L.length : Int)) = false := by simp
      go_wp2_with fail
      go_ret2
      exact ⟨_, rfl, by rw [← HN.out]; exact ⟨(t.hs.less (fun y hy => by
        rcases List.mem_append.1 hy with q | q
        · exact List.mem_append_left _ q
        · exact List.mem_append_right _ (HE.out y q))).mono (by omega), t.row, fun k hk => ⟨(t.off k hk).1, fun y hy => (t.off k hk).2 y (HE.out y hy)⟩⟩⟩
end
end Go.Proofs.YtkjioabhdglkpaaGreat
end

section
namespace Go.Proofs.YtkjioabhdglkpaaGreat
open Go.RowKit

theorem results_tmp4 {fn : Func} {t u v x : Tmp} (h : fn.results = #[.tmp t, .tmp u, .tmp v, .tmp x]) (tmps : Array Value) (P : Program) (w : World) :
    (results fn tmps).run P w = .ok (.tuple #[tmps.getD t undef, tmps.getD u undef, tmps.getD v undef, tmps.getD x undef]) w := by
  simp [results, h]

set_option maxHeartbeats 1600000 in
set_option maxRecDepth 100000 in
theorem made_any (n m : Nat) (hn : 1 ≤ n ∧ n ≤ 1000) (hm : 1 ≤ m ∧ m ≤ 64) (w : World) : Calls Tryz.prog 20 #[.int .i64 (n : Int), .int .i64 (m : Int)] w fun e w' => ∃ g p hb, e = .returned (.tuple #[.pointer (some ⟨g, 0, none⟩), .pointer (some ⟨p, 0, none⟩), .pointer (some ⟨hb, 0, none⟩), .bool true]) ∧ Hs w w' hb p g 0 n m (fun _ => blk 0) [] True [] := by
  have cN := new_any n w (by omega) (by omega)
  go_enter Tryz.func20, Tryz.ntmps20
  go_wp2_with fail
  refine cN.mono ?_
  rintro e w1 ⟨g, gs, rfl, d1, b1⟩
  have cP := q1_new (n := m) hm.1 hm.2 d1 (inv_new n (by omega) (by omega)) b1
  clear d1 b1 cN
  go_wp2_with fail
  refine cP.mono ?_
  rintro e w2 ⟨p, rfl, q2⟩
  have cH := new_heap p w2
  have q3 := q2.alloc (hobj p)
  have t : Hs w (w2.alloc (hobj p)) w2.heap.size p g 0 n m (fun _ => blk 0) [] True [] := ⟨_, q3, hv_new m n, rfl, rfl, fun _ => Int.le_refl _⟩
  clear cP q2 q3
  go_wp2_with fail
  refine cH.mono ?_
  rintro e w3 ⟨rfl, hw3⟩
  rw [hw3]
  clear hw3 cH
  go_wp2_with fail
  refine bodyPost_ret (results_tmp4 rfl _ _ _) rfl ?_
  exact ⟨g, p, _, rfl, t⟩

theorem row3 : (ByteArray.mk #[114, 111, 119]).size = 3 := rfl
theorem wk_ins : lowP 4 (fun _ => []) ⟨#[114, 111, 119]⟩ = some 1 := low_some (by decide) (by decide) (insE_nil _ (by rw [row3]; decide)) (fun j h1 h2 => by omega)
def wkH : Hp := updH (fun _ => []) 1 [some ⟨#[114, 111, 119]⟩]
theorem wk_all : insHK 4 (fun _ => []) ⟨#[114, 111, 119]⟩ = 128 ∧ insHX 4 (fun _ => []) ⟨#[114, 111, 119]⟩ = 0 ∧ insHH 4 (fun _ => []) ⟨#[114, 111, 119]⟩ = wkH := by
  have h : ¬ 400 < (ByteArray.mk #[114, 111, 119]).size := by rw [row3]; decide
  unfold insHK insHX insHH
  rw [wk_ins, if_neg h, if_neg h, if_neg h]
  exact ⟨rfl, rfl, rfl⟩
theorem wk_get : getHS 4 wkH 128 = ⟨#[114, 111, 119]⟩ ∧ delHX 4 wkH 128 = 0 ∧ pagesN 4 wkH = [1] := ⟨rfl, rfl, rfl⟩

set_option maxHeartbeats 800000 in
theorem get_nil (k : Int) (w : World) : Calls Tryz.prog 81 #[.pointer none, .int .i64 k] w fun e w' => e = .returned (.tuple #[.string ⟨#[]⟩, .int .i64 1]) ∧ w' = w := by
  go_enter Tryz.func81, Tryz.ntmps81
  go_wp2_with fail
  go_ret2
  exact ⟨rfl, rfl⟩
set_option maxHeartbeats 800000 in
theorem pages_nil (w : World) : Calls Tryz.prog 32 #[.pointer none] w fun e w' => e = .returned (.tuple #[.slice none 0 0, .int .i64 1]) ∧ w' = w := by
  go_enter Tryz.func32, Tryz.ntmps32
  go_wp2_with fail
  go_ret2
  exact ⟨rfl, rfl⟩
set_option maxHeartbeats 800000 in
theorem places_nil (w : World) : Calls Tryz.prog 31 #[.pointer none] w fun e w' => e = .returned (.tuple #[.slice none 0 0, .int .i64 1]) ∧ w' = w := by
  have c := pages_nil w
  go_enter Tryz.func31, Tryz.ntmps31
  go_wp2_with fail
  refine c.mono ?_
  rintro e w1 ⟨rfl, rfl⟩
  go_wp2_with fail
  go_ret2
  exact ⟨rfl, rfl⟩
set_option maxHeartbeats 800000 in
theorem delete_nil (k : Int) (w : World) : Calls Tryz.prog 61 #[.pointer none, .int .i64 k] w fun e w' => e = .returned (.int .i64 1) ∧ Below w.heap.size w w' := by
  have c := alter_nil k 88 #[] w
  go_enter Tryz.func61, Tryz.ntmps61
  go_wp2_with fail
  refine c.mono ?_
  rintro e w1 ⟨rfl, b⟩
  clear c
  go_wp2_with fail
  go_ret
  exact ⟨rfl, b⟩
end Go.Proofs.YtkjioabhdglkpaaGreat
end

/- Layer 10, plain mathematics: the order of keys, and lists of entries that rise. -/
import Derived.Laws.Cover1
import Derived.WalkKit
namespace Go.Proofs.Ytkfoddblgdmabaa.tr
open Go.RowKit

theorem bl_irrefl (x : List UInt8) : Op.bytesLess x x = false := by
  induction x with
  | nil => rfl
  | cons a x ih => simp [Op.bytesLess, ih, UInt8.lt_irrefl]
theorem bl_asymm (x y : List UInt8) (h : Op.bytesLess x y = true) : Op.bytesLess y x = false := by
  induction x generalizing y with
  | nil => cases y <;> simp [Op.bytesLess] at *
  | cons a x ih =>
    cases y with
    | nil => simp [Op.bytesLess] at h
    | cons b y =>
      simp only [Op.bytesLess, Bool.or_eq_true, decide_eq_true_eq, Bool.and_eq_true, beq_iff_eq, Bool.or_eq_false_iff, decide_eq_false_iff_not, Bool.and_eq_false_imp] at *
      rcases h with h | ⟨rfl, h⟩
      · exact ⟨UInt8.lt_asymm h, fun e => absurd h (by rw [e]; exact UInt8.lt_irrefl _)⟩
      · exact ⟨UInt8.lt_irrefl _, fun _ => ih y h⟩
theorem bl_trans (x y z : List UInt8) (h : Op.bytesLess x y = true) (g : Op.bytesLess y z = true) : Op.bytesLess x z = true := by
  induction x generalizing y z with
  | nil => cases y <;> cases z <;> simp [Op.bytesLess] at *
  | cons a x ih =>
    cases y with
    | nil => simp [Op.bytesLess] at h
    | cons b y =>
      cases z with
      | nil => simp [Op.bytesLess] at g
      | cons c z =>
        simp only [Op.bytesLess, Bool.or_eq_true, decide_eq_true_eq, Bool.and_eq_true, beq_iff_eq] at *
        rcases h with h | ⟨rfl, h⟩
        · rcases g with g | ⟨rfl, g⟩
          · exact Or.inl (UInt8.lt_trans h g)
          · exact Or.inl h
        · rcases g with g | ⟨rfl, g⟩
          · exact Or.inl g
          · exact Or.inr ⟨rfl, ih y z h g⟩
theorem bl_total (x y : List UInt8) (h : Op.bytesLess x y = false) (g : Op.bytesLess y x = false) : x = y := by
  induction x generalizing y with
  | nil => cases y <;> simp [Op.bytesLess] at *
  | cons a x ih =>
    cases y with
    | nil => simp [Op.bytesLess] at g
    | cons b y =>
      simp only [Op.bytesLess, Bool.or_eq_false_iff, decide_eq_false_iff_not, Bool.and_eq_false_imp, beq_iff_eq] at *
      have e : a = b := by
        have h1 := h.1
        have g1 := g.1
        rw [UInt8.not_lt] at h1 g1
        exact UInt8.le_antisymm g1 h1
      subst e
      rw [ih y (h.2 rfl) (g.2 rfl)]

/-- Is a text ahead of another one? -/
def ltS (a b : ByteArray) : Bool := Op.bytesLess a.toList b.toList
theorem toList_inj {a b : ByteArray} (h : a.toList = b.toList) : a = b := by
  rw [ByteArray.toList_eq, ByteArray.toList_eq] at h
  exact ByteArray.ext (by rw [← Array.toList_inj]; exact h)
theorem ltS_irrefl (a : ByteArray) : ltS a a = false := bl_irrefl _
theorem ltS_asymm {a b : ByteArray} (h : ltS a b = true) : ltS b a = false := bl_asymm _ _ h
theorem ltS_trans {a b c : ByteArray} (h : ltS a b = true) (g : ltS b c = true) : ltS a c = true := bl_trans _ _ _ h g
theorem ltS_total {a b : ByteArray} (h : ltS a b = false) (g : ltS b a = false) : a = b := toList_inj (bl_total _ _ h g)
theorem ltS_ne {a b : ByteArray} (h : ltS a b = true) : a ≠ b := by
  intro e
  rw [e, ltS_irrefl] at h
  cases h
/-- The order of two texts. -/
def cmpS (a b : ByteArray) : Int := if ltS a b then -1 else if ltS b a then 1 else 0
theorem cmpS_neg (a b : ByteArray) : cmpS a b < 0 ↔ ltS a b = true := by
  unfold cmpS
  split
  · simp_all
  · split <;> simp_all
theorem cmpS_zero (a b : ByteArray) : cmpS a b = 0 ↔ a = b := by
  unfold cmpS
  constructor
  · intro h
    split at h
    · omega
    · split at h
      · omega
      · rename_i h1 h2
        exact ltS_total (by simpa using h1) (by simpa using h2)
  · rintro rfl
    simp [ltS_irrefl]

/-- An entry: a key and its number. -/
structure Ent where
  key : ByteArray
  n : Int

/-- Keys that rise. -/
def Srt (L : List Ent) : Prop := L.Pairwise (fun a b => ltS a.key b.key = true)
/-- All keys of a list are below one; above one. -/
def Lo (L : List Ent) (k : ByteArray) : Prop := ∀ e ∈ L, ltS e.key k = true
def Hi (L : List Ent) (k : ByteArray) : Prop := ∀ e ∈ L, ltS k e.key = true
/-- The first place that is not below a key. -/
def pos (k : ByteArray) (L : List Ent) : Nat := (L.takeWhile (fun e => ltS e.key k)).length

theorem pos_le (k : ByteArray) (L : List Ent) : pos k L ≤ L.length := (List.takeWhile_prefix _).length_le
theorem Srt.app {A B : List Ent} : Srt (A ++ B) ↔ Srt A ∧ Srt B ∧ ∀ a ∈ A, ∀ b ∈ B, ltS a.key b.key = true := List.pairwise_append
theorem Srt.cons {e : Ent} {B : List Ent} : Srt (e :: B) ↔ Hi B e.key ∧ Srt B := List.pairwise_cons
theorem Srt.left {A B : List Ent} (h : Srt (A ++ B)) : Srt A := (Srt.app.1 h).1
theorem Srt.right {A B : List Ent} (h : Srt (A ++ B)) : Srt B := (Srt.app.1 h).2.1
theorem Srt.mid {A : List Ent} {e : Ent} {B : List Ent} (h : Srt (A ++ e :: B)) : Lo A e.key ∧ Hi B e.key ∧ Srt A ∧ Srt B := by
  obtain ⟨h1, h2, h3⟩ := Srt.app.1 h
  obtain ⟨h4, h5⟩ := Srt.cons.1 h2
  exact ⟨fun a ha => h3 a ha e (by simp), h4, h1, h5⟩
theorem Srt.mk3 {A : List Ent} {e : Ent} {B : List Ent} (hA : Srt A) (hB : Srt B) (h1 : Lo A e.key) (h2 : Hi B e.key) : Srt (A ++ e :: B) :=
  Srt.app.2 ⟨hA, Srt.cons.2 ⟨h2, hB⟩, fun a ha b hb => by
    rcases List.mem_cons.1 hb with rfl | hb
    · exact h1 a ha
    · exact ltS_trans (h1 a ha) (h2 b hb)⟩
theorem Srt.mk2 {A B : List Ent} {k : ByteArray} (hA : Srt A) (hB : Srt B) (h1 : Lo A k) (h2 : Hi B k) : Srt (A ++ B) :=
  Srt.app.2 ⟨hA, hB, fun a ha b hb => ltS_trans (h1 a ha) (h2 b hb)⟩

theorem Lo.app {A B : List Ent} {k : ByteArray} : Lo (A ++ B) k ↔ Lo A k ∧ Lo B k := by
  unfold Lo; constructor
  · intro h; exact ⟨fun e he => h e (List.mem_append_left _ he), fun e he => h e (List.mem_append_right _ he)⟩
  · rintro ⟨h1, h2⟩ e he
    rcases List.mem_append.1 he with he | he
    · exact h1 e he
    · exact h2 e he
theorem Hi.app {A B : List Ent} {k : ByteArray} : Hi (A ++ B) k ↔ Hi A k ∧ Hi B k := by
  unfold Hi; constructor
  · intro h; exact ⟨fun e he => h e (List.mem_append_left _ he), fun e he => h e (List.mem_append_right _ he)⟩
  · rintro ⟨h1, h2⟩ e he
    rcases List.mem_append.1 he with he | he
    · exact h1 e he
    · exact h2 e he
theorem Lo.nil (k : ByteArray) : Lo [] k := fun _ h => by cases h
theorem Hi.nil (k : ByteArray) : Hi [] k := fun _ h => by cases h
theorem Lo.cons {e : Ent} {A : List Ent} {k : ByteArray} : Lo (e :: A) k ↔ ltS e.key k = true ∧ Lo A k := by simp [Lo]
theorem Hi.cons {e : Ent} {A : List Ent} {k : ByteArray} : Hi (e :: A) k ↔ ltS k e.key = true ∧ Hi A k := by simp [Hi]
/-- What lies below a key that is not above another one lies below that. -/
theorem Lo.le {A : List Ent} {a b : ByteArray} (h : Lo A a) (hb : ltS b a = false) : Lo A b := fun e he => by
  by_cases q : ltS a b = true
  · exact ltS_trans (h e he) q
  · rw [← ltS_total (by simpa using q) hb]
    exact h e he
theorem Hi.le {A : List Ent} {a b : ByteArray} (h : Hi A a) (hb : ltS a b = false) : Hi A b := fun e he => by
  by_cases q : ltS b a = true
  · exact ltS_trans q (h e he)
  · rw [ltS_total (by simpa using q) hb]
    exact h e he

/-- Where a key's place is. -/
theorem pos_mid {A B : List Ent} {k : ByteArray} (hA : Lo A k) (hB : ∀ e, B.head? = some e → ltS e.key k = false) : pos k (A ++ B) = A.length := by
  unfold pos
  have : (A ++ B).takeWhile (fun e => ltS e.key k) = A := by
    induction A with
    | nil =>
      cases B with
      | nil => rfl
      | cons b B => simp [hB b rfl]
    | cons a A ih =>
      rw [List.cons_append, List.takeWhile_cons, if_pos (hA a (by simp)), ih (fun e he => hA e (by simp [he]))]
  rw [this]
theorem pos_at {A B : List Ent} {e : Ent} {k : ByteArray} (hA : Lo A k) (he : ltS e.key k = false) : pos k (A ++ e :: B) = A.length :=
  pos_mid hA (fun x hx => by simp at hx; rw [← hx]; exact he)
theorem pos_hi {A B : List Ent} {k : ByteArray} (hA : Lo A k) (hB : Hi B k) : pos k (A ++ B) = A.length := pos_mid hA (fun e he => by
  cases B with
  | nil => simp at he
  | cons b B => simp at he; subst he; exact ltS_asymm (hB _ (by simp)))
theorem mem_tw (k : ByteArray) (L : List Ent) : Lo (L.takeWhile (fun e => ltS e.key k)) k := by
  induction L with
  | nil => exact Lo.nil k
  | cons a L ih =>
    rw [List.takeWhile_cons]
    split
    · exact Lo.cons.2 ⟨by assumption, ih⟩
    · exact Lo.nil k
theorem dw_head (k : ByteArray) (L : List Ent) : ∀ e, (L.dropWhile (fun e => ltS e.key k)).head? = some e → ltS e.key k = false := by
  induction L with
  | nil => intro e h; simp at h
  | cons a L ih =>
    intro e h
    rw [List.dropWhile_cons] at h
    split at h
    · exact ih e h
    · simp at h; subst h; simp_all
/-- Each list has a key's place. -/
theorem pos_cut (k : ByteArray) (L : List Ent) (h : Srt L) : ∃ A B, L = A ++ B ∧ A.length = pos k L ∧ Lo A k ∧ ((Hi B k) ∨ ∃ e B', B = e :: B' ∧ e.key = k ∧ Hi B' k) := by
  refine ⟨L.takeWhile (fun e => ltS e.key k), L.dropWhile (fun e => ltS e.key k), (List.takeWhile_append_dropWhile ..).symm, rfl, mem_tw k L, ?_⟩
  have hs : Srt (L.dropWhile (fun e => ltS e.key k)) := List.Pairwise.sublist (List.dropWhile_sublist _) h
  cases hd : L.dropWhile (fun e => ltS e.key k) with
  | nil => exact Or.inl (Hi.nil k)
  | cons e B =>
    rw [hd] at hs
    obtain ⟨h1, h2⟩ := Srt.cons.1 hs
    have he : ltS e.key k = false := by
      exact dw_head k L e (by rw [hd]; rfl)
    by_cases q : ltS k e.key = true
    · exact Or.inl (Hi.cons.2 ⟨q, h1.le (by exact ltS_asymm q)⟩)
    · have ek : e.key = k := ltS_total he (by simpa using q)
      exact Or.inr ⟨e, B, rfl, ek, by rw [← ek]; exact h1⟩

theorem takeWhile_countP (p : Ent → Bool) (L : List Ent) (h : ∀ (a b : Nat) x y, a ≤ b → L[a]? = some x → L[b]? = some y → p y = true → p x = true) : (L.takeWhile p).length = L.countP p := by
  induction L with
  | nil => rfl
  | cons a L ih =>
    by_cases ha : p a = true
    · rw [List.takeWhile_cons, if_pos ha, List.countP_cons, if_pos ha, List.length_cons, ih]
      intro i j x y hij hx hy hp
      exact h (i + 1) (j + 1) x y (by omega) (by simpa using hx) (by simpa using hy) hp
    · rw [List.takeWhile_cons, if_neg ha, List.countP_cons, if_neg ha]
      have : L.countP p = 0 := by
        rw [List.countP_eq_zero]
        intro y hy hp
        obtain ⟨j, hj⟩ := List.getElem?_of_mem hy
        exact ha (h 0 (j + 1) a y (by omega) rfl (by simpa using hj) hp)
      rw [this]; rfl

/-! ### The document's answers, over a list of entries -/

/-- What is there, when a key is put. -/
def putL (k : ByteArray) (n : Int) (L : List Ent) : List Ent := L.take (pos k L) ++ ⟨k, n⟩ :: (match L[pos k L]? with
  | some e => if e.key = k then L.drop (pos k L + 1) else L.drop (pos k L)
  | none => [])
/-- Is a key there? -/
def hasL (k : ByteArray) (L : List Ent) : Bool := match L[pos k L]? with
  | some e => e.key = k
  | none => false
/-- What is there, when a key is taken away. -/
def delL (k : ByteArray) (L : List Ent) : List Ent := if hasL k L then L.eraseIdx (pos k L) else L
def getL (k : ByteArray) (L : List Ent) : Int := match L[pos k L]? with
  | some e => if e.key = k then e.n else 0
  | none => 0

theorem drop_mid {A B : List Ent} : (A ++ B).drop A.length = B := List.drop_left
theorem putL_new {A B : List Ent} {k : ByteArray} {n : Int} (hA : Lo A k) (hB : Hi B k) : putL k n (A ++ B) = A ++ ⟨k, n⟩ :: B := by
  unfold putL
  rw [pos_hi hA hB, List.take_left, List.getElem?_append_right (Nat.le_refl _), Nat.sub_self]
  cases B with
  | nil => rfl
  | cons b B =>
    have : b.key ≠ k := fun e => by have := hB b (by simp); rw [e, ltS_irrefl] at this; cases this
    simp [this]
theorem putL_old {A B : List Ent} {e : Ent} {n : Int} (hA : Lo A e.key) : putL e.key n (A ++ e :: B) = A ++ ⟨e.key, n⟩ :: B := by
  unfold putL
  rw [pos_at hA (ltS_irrefl _), List.take_left, List.getElem?_append_right (Nat.le_refl _), Nat.sub_self]
  simp
theorem hasL_new {A B : List Ent} {k : ByteArray} (hA : Lo A k) (hB : Hi B k) : hasL k (A ++ B) = false := by
  unfold hasL
  rw [pos_hi hA hB, List.getElem?_append_right (Nat.le_refl _), Nat.sub_self]
  cases B with
  | nil => rfl
  | cons b B =>
    have : b.key ≠ k := fun e => by have := hB b (by simp); rw [e, ltS_irrefl] at this; cases this
    simp [this]
theorem hasL_old {A B : List Ent} {e : Ent} (hA : Lo A e.key) : hasL e.key (A ++ e :: B) = true := by
  unfold hasL
  rw [pos_at hA (ltS_irrefl _), List.getElem?_append_right (Nat.le_refl _), Nat.sub_self]
  simp
theorem getL_old {A B : List Ent} {e : Ent} (hA : Lo A e.key) : getL e.key (A ++ e :: B) = e.n := by
  unfold getL
  rw [pos_at hA (ltS_irrefl _), List.getElem?_append_right (Nat.le_refl _), Nat.sub_self]
  simp
theorem getL_new {A B : List Ent} {k : ByteArray} (hA : Lo A k) (hB : Hi B k) : getL k (A ++ B) = 0 := by
  unfold getL
  rw [pos_hi hA hB, List.getElem?_append_right (Nat.le_refl _), Nat.sub_self]
  cases B with
  | nil => rfl
  | cons b B =>
    have : b.key ≠ k := fun e => by have := hB b (by simp); rw [e, ltS_irrefl] at this; cases this
    simp [this]
theorem delL_old {A B : List Ent} {e : Ent} (hA : Lo A e.key) : delL e.key (A ++ e :: B) = A ++ B := by
  unfold delL
  rw [hasL_old hA, if_pos rfl, pos_at hA (ltS_irrefl _), List.eraseIdx_append_of_length_le (Nat.le_refl _), Nat.sub_self]
  rfl
theorem delL_new {A B : List Ent} {k : ByteArray} (hA : Lo A k) (hB : Hi B k) : delL k (A ++ B) = A ++ B := by
  unfold delL
  rw [hasL_new hA hB]
  rfl

/-- A list parts at a key. -/
theorem cut_key (k : ByteArray) (L : List Ent) (h : Srt L) : (∃ A B, L = A ++ B ∧ Lo A k ∧ Hi B k) ∨ ∃ A e B, L = A ++ e :: B ∧ e.key = k ∧ Lo A k ∧ Hi B k := by
  obtain ⟨A, B, e1, _, e2, e3 | ⟨e, B', rfl, e4, e5⟩⟩ := pos_cut k L h
  · exact Or.inl ⟨A, B, e1, e2, e3⟩
  · exact Or.inr ⟨A, e, B', e1, e4, e2, e5⟩
theorem Srt.put {L : List Ent} (h : Srt L) (k : ByteArray) (n : Int) : Srt (putL k n L) := by
  rcases cut_key k L h with ⟨A, B, rfl, hA, hB⟩ | ⟨A, e, B, rfl, rfl, hA, hB⟩
  · rw [putL_new hA hB]
    exact Srt.mk3 h.left h.right hA hB
  · rw [putL_old hA]
    obtain ⟨_, _, h3, h4⟩ := h.mid
    exact Srt.mk3 h3 h4 hA hB
theorem Srt.del {L : List Ent} (h : Srt L) (k : ByteArray) : Srt (delL k L) := by
  rcases cut_key k L h with ⟨A, B, rfl, hA, hB⟩ | ⟨A, e, B, rfl, rfl, hA, hB⟩
  · rw [delL_new hA hB]
    exact h
  · rw [delL_old hA]
    obtain ⟨_, _, h3, h4⟩ := h.mid
    exact Srt.mk2 h3 h4 hA hB
theorem putL_len (k : ByteArray) (n : Int) (L : List Ent) (h : Srt L) : (putL k n L).length = L.length + (if hasL k L then 0 else 1) := by
  rcases cut_key k L h with ⟨A, B, rfl, hA, hB⟩ | ⟨A, e, B, rfl, rfl, hA, hB⟩
  · rw [putL_new hA hB, hasL_new hA hB]
    simp; omega
  · rw [putL_old hA, hasL_old hA]
    simp
theorem delL_len (k : ByteArray) (L : List Ent) (h : Srt L) : (delL k L).length + (if hasL k L then 1 else 0) = L.length := by
  rcases cut_key k L h with ⟨A, B, rfl, hA, hB⟩ | ⟨A, e, B, rfl, rfl, hA, hB⟩
  · rw [delL_new hA hB, hasL_new hA hB]
    simp
  · rw [delL_old hA, hasL_old hA]
    simp; omega

end Go.Proofs.Ytkfoddblgdmabaa.tr

/- Words of layer 3: a value's bytes in a key, the key of values, the values of a key; their order. -/
import Derived.Test.YtijpnlomfodihaaDoorKList
namespace Go.Proofs.YtijpnlomfodihaaDoor
open Go.RowKit

/-- A value's bytes in a key. -/
def kv (v : V) : List UInt8 :=
  UInt8.ofNat v.k.toNat :: (if v.k = 1 then [UInt8.ofNat v.n.toNat] else if v.k = 2 then be 8 (v.n + 9223372036854775808).toNat else if v.k = 3 then esc v.s.data.toList ++ [0, 1] else [])

/-- A value that may stand in a key. -/
def kfit (v : V) : Bool := blankB v || goodB v

/-- The bytes of values, one behind the other. -/
def kvs (L : List V) : List UInt8 := L.flatMap kv

theorem kvs_nil : kvs [] = [] := rfl
theorem kvs_cons (v : V) (L : List V) : kvs (v :: L) = kv v ++ kvs L := by simp [kvs]
theorem kvs_append (A B : List V) : kvs (A ++ B) = kvs A ++ kvs B := by simp [kvs]

theorem fit_cases {v : V} (h : kfit v = true) : v = ⟨0, 0, ba []⟩ ∨ (∃ n, v = ⟨1, n, ba []⟩ ∧ (n = 0 ∨ n = 1)) ∨ (∃ n, v = ⟨2, n, ba []⟩) ∨ (∃ s, v = ⟨3, 0, s⟩ ∧ s.size ≤ 1024) := by
  obtain ⟨k, n, s⟩ := v
  simp only [kfit, blankB, goodB, Bool.or_eq_true, Bool.and_eq_true, decide_eq_true_eq] at h
  have hz : ∀ s : ByteArray, s.size = 0 → s = ba [] := fun s h => by rw [size_zero s h]; rfl
  rcases h with ⟨rfl, rfl, hs⟩ | (⟨rfl, hn, hs⟩ | ⟨rfl, hs⟩) | ⟨rfl, rfl, hs⟩
  · exact Or.inl (by rw [hz s hs])
  · exact Or.inr (Or.inl ⟨n, by rw [hz s hs], hn⟩)
  · exact Or.inr (Or.inr (Or.inl ⟨n, by rw [hz s hs]⟩))
  · exact Or.inr (Or.inr (Or.inr ⟨s, rfl, hs⟩))

theorem fit_k {v : V} (h : kfit v = true) : v.k = 0 ∨ v.k = 1 ∨ v.k = 2 ∨ v.k = 3 := by
  rcases fit_cases h with rfl | ⟨n, rfl, _⟩ | ⟨n, rfl⟩ | ⟨s, rfl, _⟩ <;> simp

/-- Whose order parts, their bytes part alike. -/
theorem kv_sep {a b : V} (ha : kfit a = true) (hb : kfit b = true) (oa : a.ok) (ob : b.ok) (h : ahead a b) : Sep (kv a) (kv b) := by
  by_cases hk : a.k < b.k
  · refine Sep.head ?_ _ _
    rw [UInt8.lt_iff_toNat_lt]
    have h1 := fit_k ha
    have h2 := fit_k hb
    rcases h1 with h1 | h1 | h1 | h1 <;> rcases h2 with h2 | h2 | h2 | h2 <;> rw [h1, h2] at hk ⊢ <;> first | (exfalso; omega) | decide
  · obtain ⟨hke, h⟩ : a.k = b.k ∧ (a.n < b.n ∨ a.n = b.n ∧ ltS a.s b.s = true) := by
      rcases h with h | h
      · exact absurd h hk
      · exact h
    have h1 := oa.n0; have h2 := oa.n1; have h3 := ob.n0; have h4 := ob.n1
    rcases fit_cases ha with rfl | ⟨n, rfl, hn⟩ | ⟨n, rfl⟩ | ⟨s, rfl, hs⟩ <;> rcases fit_cases hb with rfl | ⟨m, rfl, hm⟩ | ⟨m, rfl⟩ | ⟨t, rfl, ht⟩ <;> simp only at hke h h1 h2 h3 h4 <;> try (exfalso; omega)
    · rcases h with h | ⟨_, h⟩
      · omega
      · rw [ltS_irrefl] at h; cases h
    · rcases h with h | ⟨_, h⟩
      · have e1 : n = 0 := by omega
        have e2 : m = 1 := by omega
        subst e1 e2
        exact (Sep.head (by decide) _ _).cons _
      · rw [ltS_irrefl] at h; cases h
    · rcases h with h | ⟨_, h⟩
      · have g : (n + 9223372036854775808).toNat % 256 ^ 8 < (m + 9223372036854775808).toNat % 256 ^ 8 := by
          rw [Nat.mod_eq_of_lt (by omega), Nat.mod_eq_of_lt (by omega)]
          omega
        exact Sep.cons _ (be_sep 8 _ _ g)
      · rw [ltS_irrefl] at h; cases h
    · rcases h with h | ⟨_, h⟩
      · omega
      · refine Sep.cons _ (esc_sep _ _ ?_)
        simpa [ltS, ByteArray.toList_eq] using h

theorem kv_inj {a b : V} (ha : kfit a = true) (hb : kfit b = true) (oa : a.ok) (ob : b.ok) {r t : List UInt8} (h : kv a ++ r = kv b ++ t) : a = b ∧ r = t := by
  rcases cmpV_tri a b with ⟨g, _⟩ | ⟨rfl, _⟩ | ⟨g, _⟩
  · have := (kv_sep ha hb oa ob g).lt r t
    rw [h, bl_irrefl] at this; cases this
  · exact ⟨rfl, List.append_cancel_left h⟩
  · have := (kv_sep hb ha ob oa g).lt t r
    rw [h, bl_irrefl] at this; cases this

/-- The values fit, and are values of their types. -/
def Fit (L : List V) : Prop := ∀ v ∈ L, kfit v = true ∧ v.ok

theorem Fit.tail {v : V} {L : List V} (h : Fit (v :: L)) : Fit L := fun x hx => h x (List.mem_cons_of_mem _ hx)
theorem Fit.append {A B : List V} (h : Fit A) (g : Fit B) : Fit (A ++ B) := fun x hx => (List.mem_append.1 hx).elim (h x) (g x)

/-- The order of two lists of values. -/
def cmpL : List V → List V → Int
  | [], [] => 0
  | [], _ :: _ => -1
  | _ :: _, [] => 1
  | a :: x, b :: y => if cmpV a b = 0 then cmpL x y else cmpV a b

theorem kv_ne (v : V) : kv v ≠ [] := by simp [kv]

theorem key_order (A B : List V) (ha : Fit A) (hb : Fit B) : Op.bytesLess (kvs A) (kvs B) = decide (cmpL A B < 0) ∧ (kvs A = kvs B ↔ cmpL A B = 0) := by
  induction A generalizing B with
  | nil =>
    cases B with
    | nil => simp [kvs_nil, cmpL, bl_nil]
    | cons b y =>
      rw [kvs_nil, kvs_cons]
      cases hk : kv b with
      | nil => exact absurd hk (kv_ne b)
      | cons c r => simp [bl_nil_cons, cmpL]
  | cons a x ih =>
    cases B with
    | nil =>
      rw [kvs_nil, kvs_cons]
      cases hk : kv a with
      | nil => exact absurd hk (kv_ne a)
      | cons c r => simp [bl_nil, cmpL]
    | cons b y =>
      have fa := ha a List.mem_cons_self
      have fb := hb b List.mem_cons_self
      rw [kvs_cons, kvs_cons]
      rcases cmpV_tri a b with ⟨g, e, _⟩ | ⟨rfl, e, _⟩ | ⟨g, e, _⟩
      · have h1 := (kv_sep fa.1 fb.1 fa.2 fb.2 g).lt (kvs x) (kvs y)
        simp only [cmpL, e, h1]
        refine ⟨by simp, ⟨fun q => ?_, fun q => by simp at q⟩⟩
        rw [q, bl_irrefl] at h1; cases h1
      · have h := ih y ha.tail hb.tail
        simp only [cmpL, e, bl_app, h.1, if_true]
        exact ⟨trivial, by rw [List.append_cancel_left_eq]; exact h.2⟩
      · have h1 := (kv_sep fb.1 fa.1 fb.2 fa.2 g).lt (kvs y) (kvs x)
        simp only [cmpL, e, bl_asymm _ _ h1]
        refine ⟨by simp, ⟨fun q => ?_, fun q => by simp at q⟩⟩
        rw [q, bl_irrefl] at h1; cases h1

theorem cmpL_self (L : List V) : cmpL L L = 0 := by
  induction L with
  | nil => rfl
  | cons a x ih => simp [cmpL, cmpV_refl, ih]

theorem kvs_inj {A B : List V} (ha : Fit A) (hb : Fit B) (h : kvs A = kvs B) : A = B := by
  induction A generalizing B with
  | nil =>
    cases B with
    | nil => rfl
    | cons b y => rw [kvs_nil, kvs_cons] at h; have := congrArg List.length h; simp [kv] at this
  | cons a x ih =>
    cases B with
    | nil => rw [kvs_nil, kvs_cons] at h; have := congrArg List.length h; simp [kv] at this
    | cons b y =>
      have fa := ha a List.mem_cons_self
      have fb := hb b List.mem_cons_self
      rw [kvs_cons, kvs_cons] at h
      obtain ⟨rfl, h2⟩ := kv_inj fa.1 fb.1 fa.2 fb.2 h
      rw [ih ha.tail hb.tail h2]

/-- The text that stands at the head of bytes, and what is behind it. -/
def unesc : List UInt8 → Option (List UInt8 × List UInt8)
  | [] => none
  | c :: r => if c = 0 then (match r with
      | [] => none
      | d :: r' => if d = 1 then some ([], r') else if d = 255 then (unesc r').map (fun x => (0 :: x.1, x.2)) else none)
    else (unesc r).map (fun x => (c :: x.1, x.2))

theorem unesc_esc (t r : List UInt8) : unesc (esc t ++ r) = (unesc r).map (fun x => (t ++ x.1, x.2)) := by
  induction t with
  | nil => simp [esc]
  | cons c t ih =>
    by_cases hc : c = 0
    · subst hc
      simp only [esc, if_true, List.cons_append]
      rw [unesc.eq_def]
      simp [ih, Function.comp_def]
    · simp only [esc, if_neg hc, List.cons_append]
      rw [unesc.eq_def]
      simp only [if_neg hc, ih]
      simp [Function.comp_def]

theorem unesc_end (t r : List UInt8) : unesc (esc t ++ ([0, 1] ++ r)) = some (t, r) := by
  rw [unesc_esc]
  simp [unesc]

theorem unesc_back (n : Nat) (l t r : List UInt8) (hn : l.length ≤ n) (h : unesc l = some (t, r)) : l = esc t ++ ([0, 1] ++ r) := by
  induction n generalizing l t r with
  | zero =>
    obtain rfl := List.eq_nil_of_length_eq_zero (Nat.le_zero.1 hn)
    simp [unesc] at h
  | succ n ih =>
    cases l with
    | nil => simp [unesc] at h
    | cons c m =>
      rw [unesc.eq_def] at h
      simp only at h
      by_cases hc : c = 0
      · subst hc
        rw [if_pos rfl] at h
        cases m with
        | nil => simp at h
        | cons d m =>
          simp only at h
          by_cases h1 : d = 1
          · subst h1
            simp at h
            obtain ⟨rfl, rfl⟩ := h
            rfl
          · rw [if_neg h1] at h
            by_cases h2 : d = 255
            · subst h2
              rw [if_pos rfl, Option.map_eq_some_iff] at h
              obtain ⟨⟨t', r'⟩, hx, hy⟩ := h
              obtain ⟨rfl, rfl⟩ : 0 :: t' = t ∧ r' = r := by simpa using hy
              have := ih m t' r' (by simp at hn; omega) hx
              rw [this]; simp [esc]
            · rw [if_neg h2] at h; cases h
      · rw [if_neg hc, Option.map_eq_some_iff] at h
        obtain ⟨⟨t', r'⟩, hx, hy⟩ := h
        obtain ⟨rfl, rfl⟩ : c :: t' = t ∧ r' = r := by simpa using hy
        have := ih m t' r' (by simp at hn; omega) hx
        rw [this]; simp [esc, hc]

theorem esc_plain (p : List UInt8) (h : 0 ∉ p) : esc p = p := by
  induction p with
  | nil => rfl
  | cons c p ih =>
    have : c ≠ 0 := fun e => h (by simp [e])
    simp [esc, this, ih (fun e => h (List.mem_cons_of_mem _ e))]

theorem esc_append (a b : List UInt8) : esc (a ++ b) = esc a ++ esc b := by
  induction a with
  | nil => rfl
  | cons c a ih => by_cases hc : c = 0 <;> simp [esc, hc, ih]

theorem esc_length (a : List UInt8) : a.length ≤ (esc a).length ∧ (esc a).length ≤ 2 * a.length := by
  induction a with
  | nil => simp [esc]
  | cons c a ih => by_cases hc : c = 0 <;> simp [esc, hc] <;> omega

theorem unesc_plain (p : List UInt8) (h : 0 ∉ p) : unesc p = none := by
  have := unesc_esc p []
  rw [esc_plain p h, List.append_nil] at this
  rw [this]; rfl

/-- What is read at the head of bytes, as the program reads it: a value, how many bytes, whether there was one. -/
def getM (s : List UInt8) : V × Nat × Bool :=
  match s with
  | [] => (⟨0, 0, ba []⟩, 0, false)
  | c :: r =>
    if c = 0 then (⟨0, 0, ba []⟩, 1, true)
    else if c = 1 then (match r with
      | [] => (⟨1, 0, ba []⟩, 1, false)
      | b :: _ => (⟨1, b.toNat, ba []⟩, 2, true))
    else if c = 2 then (if r.length < 8 then (⟨2, 0, ba []⟩, 1, false) else (⟨2, ofBe (r.take 8) - 9223372036854775808, ba []⟩, 9, true))
    else if c = 3 then (match unesc r with
      | none => (⟨3, 0, ba []⟩, 1, false)
      | some x => (⟨3, 0, ba x.1⟩, 1 + (r.length - x.2.length), true))
    else (⟨c.toNat, 0, ba []⟩, 1, false)

/-- The value at the head of bytes, and what is behind it. -/
def dec1 (s : List UInt8) : Option (V × List UInt8) :=
  if (getM s).2.2 && kfit (getM s).1 then some ((getM s).1, s.drop (getM s).2.1) else none

theorem ofBe_lt8 (l : List UInt8) (h : l.length = 8) : ofBe l < 18446744073709551616 := by
  have := (foldl_be_back l 0).2
  rw [h] at this; exact this

theorem dec1_kv {v : V} (hf : kfit v = true) (ho : v.ok) (t : List UInt8) : dec1 (kv v ++ t) = some (v, t) := by
  have h1 := ho.n0; have h2 := ho.n1
  unfold dec1
  rcases fit_cases hf with rfl | ⟨n, rfl, hn⟩ | ⟨n, rfl⟩ | ⟨s, rfl, hs⟩
  · have e : getM (kv ⟨0, 0, ba []⟩ ++ t) = (⟨0, 0, ba []⟩, 1, true) := rfl
    rw [e]; simp [hf]; rfl
  · have e : getM (kv ⟨1, n, ba []⟩ ++ t) = (⟨1, n, ba []⟩, 2, true) := by
      rcases hn with rfl | rfl <;> rfl
    rw [e]; simp [hf]; rfl
  · simp only at h1 h2
    have e0 : kv ⟨2, n, ba []⟩ ++ t = 2 :: (be 8 (n + 9223372036854775808).toNat ++ t) := rfl
    have hl : (be 8 (n + 9223372036854775808).toNat).length = 8 := be_length _ _
    have e : getM (kv ⟨2, n, ba []⟩ ++ t) = (⟨2, n, ba []⟩, 9, true) := by
      rw [e0]
      have q : ¬ (be 8 (n + 9223372036854775808).toNat ++ t).length < 8 := by rw [List.length_append, hl]; omega
      have q2 : (be 8 (n + 9223372036854775808).toNat ++ t).take 8 = be 8 (n + 9223372036854775808).toNat := by
        conv => lhs; lhs; rw [← hl]
        exact List.take_left
      simp only [getM, q, q2, ofBe_be, if_false]
      have : ((((n + 9223372036854775808).toNat % 256 ^ 8 : Nat)) : Int) - 9223372036854775808 = n := by
        rw [Nat.mod_eq_of_lt (by omega)]; omega
      rw [this]
      rfl
    rw [e]
    simp only [hf, Bool.and_self, if_true, e0]
    have q : (be 8 (n + 9223372036854775808).toNat ++ t).drop 8 = t := by
      conv => lhs; lhs; rw [← hl]
      exact List.drop_left
    rw [show (9 : Nat) = 8 + 1 from rfl, List.drop_succ_cons, q]
  · have e0 : kv ⟨3, 0, s⟩ ++ t = 3 :: (esc s.data.toList ++ ([0, 1] ++ t)) := by simp [kv]
    have e : getM (kv ⟨3, 0, s⟩ ++ t) = (⟨3, 0, s⟩, 1 + (esc s.data.toList ++ [0, 1]).length, true) := by
      rw [e0]
      have q := unesc_end s.data.toList t
      simp only [getM, q]
      have : (esc s.data.toList ++ ([0, 1] ++ t)).length - t.length = (esc s.data.toList ++ [0, 1]).length := by simp; omega
      rw [this]
      rfl
    rw [e]
    simp only [hf, Bool.and_self, if_true, e0]
    rw [Nat.add_comm, List.drop_succ_cons, ← List.append_assoc, List.drop_left]

theorem u8_eq {c : UInt8} {n : Nat} (h : c.toNat = n) : c = UInt8.ofNat n := by
  subst h; simp

theorem dec1_back {s t : List UInt8} {v : V} (h : dec1 s = some (v, t)) : s = kv v ++ t ∧ kfit v = true ∧ v.ok := by
  unfold dec1 at h
  by_cases hg : ((getM s).2.2 && kfit (getM s).1) = true
  · rw [if_pos hg] at h
    rw [Bool.and_eq_true] at hg
    obtain ⟨hg, hf⟩ := hg
    simp only [Option.some.injEq, Prod.mk.injEq] at h
    obtain ⟨hv, ht⟩ := h
    rw [hv] at hf
    cases s with
    | nil => simp [getM] at hg
    | cons c r =>
      simp only [getM] at hg hv ht
      by_cases c0 : c = 0
      · subst c0
        simp at hv ht
        subst hv ht
        exact ⟨rfl, hf, ⟨by simp, by simp, by simp, by simp⟩⟩
      · rw [if_neg c0] at hg hv ht
        by_cases c1 : c = 1
        · subst c1
          rw [if_pos rfl] at hg hv ht
          cases r with
          | nil => simp at hg
          | cons b r =>
            simp at hv ht
            have hb := UInt8.toNat_lt b
            subst hv ht
            refine ⟨?_, hf, ⟨by simp, by simp, by simp only; omega, by simp only; omega⟩⟩
            simp [kv]
        · rw [if_neg c1] at hg hv ht
          by_cases c2 : c = 2
          · subst c2
            rw [if_pos rfl] at hg hv ht
            by_cases hl : r.length < 8
            · simp [hl] at hg
            · rw [if_neg hl] at hv ht
              simp only at hv ht
              have l8 : (r.take 8).length = 8 := by rw [List.length_take]; omega
              have hlt := ofBe_lt8 _ l8
              subst hv ht
              refine ⟨?_, hf, ⟨by simp, by simp, by simp only; omega, by simp only; omega⟩⟩
              have e : ((ofBe (r.take 8) : Int) - 9223372036854775808 + 9223372036854775808).toNat = ofBe (r.take 8) := by omega
              have q := be_ofBe (r.take 8) 0
              rw [l8, Nat.zero_mul, Nat.zero_add] at q
              have q2 : kv ⟨2, (ofBe (r.take 8) : Int) - 9223372036854775808, ba []⟩ = 2 :: be 8 ((ofBe (r.take 8) : Int) - 9223372036854775808 + 9223372036854775808).toNat := rfl
              rw [q2, e, q]
              simp
          · rw [if_neg c2] at hg hv ht
            by_cases c3 : c = 3
            · subst c3
              rw [if_pos rfl] at hg hv ht
              cases hu : unesc r with
              | none => rw [hu] at hg; simp at hg
              | some x =>
                rw [hu] at hv ht
                simp only at hv ht
                have hb := unesc_back r.length r x.1 x.2 (Nat.le_refl _) (by rw [hu])
                subst hv
                refine ⟨?_, hf, ⟨by simp, by simp, by simp, by simp⟩⟩
                have q2 : kv ⟨3, 0, ba x.1⟩ = 3 :: (esc x.1 ++ [0, 1]) := by simp [kv, ba]
                have e : r.length - x.2.length = (esc x.1 ++ [0, 1]).length := by rw [hb]; simp; omega
                rw [q2, ← ht, e, Nat.add_comm, List.drop_succ_cons]
                conv => lhs; rw [hb]
                conv => rhs; rw [hb]
                rw [← List.append_assoc, List.drop_left]
                simp
            · rw [if_neg c3] at hg
              simp at hg
  · rw [if_neg hg] at h; cases h

open Classical in
/-- The values of a key, if it is one. -/
noncomputable def spl (s : List UInt8) : Option (List V) := if h : ∃ L, Fit L ∧ kvs L = s then some (Classical.choose h) else none

theorem spl_kvs {L : List V} (h : Fit L) : spl (kvs L) = some L := by
  unfold spl
  have hx : ∃ L', Fit L' ∧ kvs L' = kvs L := ⟨L, h, rfl⟩
  rw [dif_pos hx]
  have := Classical.choose_spec hx
  rw [kvs_inj this.1 h this.2]

theorem spl_back {s : List UInt8} {L : List V} (h : spl s = some L) : Fit L ∧ kvs L = s := by
  unfold spl at h
  split at h
  · rename_i hx
    have := Classical.choose_spec hx
    simp only [Option.some.injEq] at h
    rw [← h]; exact this
  · cases h

theorem pre_fit (A L : List V) (r : List UInt8) (ha : Fit A) (hl : Fit L) (h : kvs L = kvs A ++ r) : ∃ B, L = A ++ B ∧ kvs B = r := by
  induction A generalizing L with
  | nil => exact ⟨L, rfl, by simpa [kvs_nil] using h⟩
  | cons a x ih =>
    cases L with
    | nil => rw [kvs_nil, kvs_cons] at h; have := congrArg List.length h; simp [kv] at this
    | cons b y =>
      have fa := ha a List.mem_cons_self
      have fb := hl b List.mem_cons_self
      rw [kvs_cons, kvs_cons, List.append_assoc] at h
      obtain ⟨rfl, h2⟩ := kv_inj fb.1 fa.1 fb.2 fa.2 h
      obtain ⟨B, rfl, hB⟩ := ih y ha.tail hl.tail h2
      exact ⟨B, rfl, hB⟩

theorem spl_stuck {A : List V} {r : List UInt8} (ha : Fit A) (hr : r ≠ []) (hd : dec1 r = none) : spl (kvs A ++ r) = none := by
  cases h : spl (kvs A ++ r) with
  | none => rfl
  | some L =>
    obtain ⟨hl, he⟩ := spl_back h
    obtain ⟨B, rfl, hB⟩ := pre_fit A L r ha hl he
    cases B with
    | nil => exact absurd hB.symm hr
    | cons b y =>
      have fb := hl b (by simp)
      rw [kvs_cons] at hB
      rw [← hB, dec1_kv fb.1 fb.2] at hd
      cases hd

end Go.Proofs.YtijpnlomfodihaaDoor

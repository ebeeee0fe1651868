/- DevSafe: how often a sector was written; arrays of sixteen. -/
import Derived.Test.YthodnhcnaeajnaaDArms
namespace Go.Proofs.Ythodnhcnaeajnaa
open Go.RowKit

/-- How often i is written by the first k. -/
def cntN (l : List (Nat × ByteArray)) (i : Nat) : Nat → Nat
  | 0 => 0
  | k + 1 => cntN l i k + match l[k]? with
    | some p => if p.1 = i then 1 else 0
    | none => 0

theorem cntN_succ (l : List (Nat × ByteArray)) (i k : Nat) (p : Nat × ByteArray) (h : l[k]? = some p) : cntN l i (k + 1) = cntN l i k + if p.1 = i then 1 else 0 := by
  rw [cntN, h]

theorem cntN_app (l : List (Nat × ByteArray)) (p : Nat × ByteArray) (i k : Nat) (hk : k ≤ l.length) : cntN (l ++ [p]) i k = cntN l i k := by
  induction k with
  | zero => rfl
  | succ k ih =>
    have hlt : k < l.length := by omega
    have h1 : (l ++ [p])[k]? = some l[k] := by rw [List.getElem?_append_left hlt]; simp [hlt]
    have h2 : l[k]? = some l[k] := by simp [hlt]
    rw [cntN_succ _ _ _ _ h1, cntN_succ _ _ _ _ h2, ih (by omega)]

theorem cntN_push (l : List (Nat × ByteArray)) (p : Nat × ByteArray) (i : Nat) : cntN (l ++ [p]) i (l.length + 1) = cntN l i l.length + if p.1 = i then 1 else 0 := by
  rw [cntN_succ (l ++ [p]) i l.length p (by simp), cntN_app _ _ _ _ (Nat.le_refl _)]

/-- Of a sector that was written once at most a crash leaves what was, what was written, or both torn. -/
theorem once (f : Nat → ByteArray) (l : List (Nat × ByteArray)) (keep : List Int) (i k : Nat) (hk : k ≤ l.length) :
    (cntN l i k = 0 ∧ crN f l keep k i = f i ∧ flN f l k i = f i) ∨ (cntN l i k = 1 ∧ ∃ m, m ≤ 512 ∧ crN f l keep k i = tear m (flN f l k i) (f i)) ∨ 2 ≤ cntN l i k := by
  induction k with
  | zero => exact Or.inl ⟨rfl, rfl, rfl⟩
  | succ k ih =>
    have hlt : k < l.length := by omega
    have hp : l[k]? = some l[k] := by simp [hlt]
    generalize l[k] = p at hp
    have ih := ih (by omega)
    rw [cntN_succ _ _ _ _ hp, flN_succ _ _ _ _ hp]
    by_cases e : p.1 = i
    · rw [if_pos e]
      rcases ih with ⟨h0, h1, h2⟩ | ⟨h0, _⟩ | h0
      · right; left
        refine ⟨by omega, ?_⟩
        have hf : upd (flN f l k) p.1 p.2 i = p.2 := by unfold upd; rw [if_pos e.symm]
        rw [hf]
        cases hx : keep[k]? with
        | none => exact ⟨0, by omega, by rw [crN_none _ _ _ _ hx, h1, tear_none]⟩
        | some x =>
          refine ⟨kept x, kept_le x, ?_⟩
          rw [crN_some _ _ _ _ _ _ hp hx]
          unfold upd
          rw [if_pos e.symm, e, h1]
      · right; right; omega
      · right; right; omega
    · rw [if_neg e, Nat.add_zero]
      have hf : upd (flN f l k) p.1 p.2 i = flN f l k i := by unfold upd; rw [if_neg (Ne.symm e)]
      have hc : crN f l keep (k + 1) i = crN f l keep k i := by
        cases hx : keep[k]? with
        | none => rw [crN_none _ _ _ _ hx]
        | some x =>
          rw [crN_some _ _ _ _ _ _ hp hx]
          unfold upd
          rw [if_neg (Ne.symm e)]
      rw [hf, hc]
      exact ih

theorem tear_data (m : Nat) (a b : ByteArray) (hb : b.size = 512) : (tear m a b).data.toList = a.data.toList.take m ++ (b.data.toList.take 512).drop m := by
  unfold tear
  rw [ByteArray.data_append, Array.toList_append, ByteArray.data_extract, ByteArray.data_extract, hb]
  simp [Array.toList_extract, List.drop_take]

theorem ba_len (s : ByteArray) : s.data.toList.length = s.size := by rw [Array.length_toList]; rfl

/-- Behind its beginning a torn sector is as it was. -/
theorem tear_end (m k : Nat) (a b : ByteArray) (ha : a.size = 512) (hb : b.size = 512) (hm : m ≤ k) (hk : k ≤ 512) : (tear m a b).extract k 512 = b.extract k 512 := by
  apply ByteArray.ext
  apply Array.ext'
  rw [ByteArray.data_extract, ByteArray.data_extract, Array.toList_extract, Array.toList_extract, tear_data m a b hb, List.extract_eq_take_drop, List.extract_eq_take_drop]
  have h1 : (a.data.toList.take m).length = m := by rw [List.length_take, ba_len]; omega
  congr 1
  rw [List.drop_append, List.drop_of_length_le (by omega), h1, List.nil_append, List.drop_drop]
  rw [List.take_of_length_le (l := b.data.toList) (by rw [ba_len]; omega)]
  congr 1
  omega

/-- Its beginning is as it was written. -/
theorem tear_start (m k : Nat) (a b : ByteArray) (ha : a.size = 512) (hb : b.size = 512) (hk : k < m) (hm : m ≤ 512) : (tear m a b).data.toList[k]? = a.data.toList[k]? := by
  rw [tear_data m a b hb, List.getElem?_append_left (by rw [List.length_take, ba_len]; omega), List.getElem?_take, if_pos hk]

/-- An array of sixteen cells. -/
def Arr16 (w : World) (H : Nat) (f : Nat → Value) : Prop := ∃ (t : TypeId) (cur : Array Value), w.heap[H]? = some (.cells cur t (0, 0)) ∧ cur.size = 16 ∧ ∀ j, j < 16 → cur[j]? = some (f j)

def updV (f : Nat → Value) (i : Nat) (s : Value) : Nat → Value := fun j => if j = i then s else f j

theorem Arr16.kept {w w' : World} {H : Nat} {f : Nat → Value} (h : Arr16 w H f) (e : w'.heap[H]? = w.heap[H]?) : Arr16 w' H f := by
  obtain ⟨t, cur, h1, h2, h3⟩ := h
  exact ⟨t, cur, e.trans h1, h2, h3⟩

theorem Arr16.cell {w : World} {H : Nat} {f : Nat → Value} (h : Arr16 w H f) (j : Nat) (hj : j < 16) : w.cell? ⟨H, j, none⟩ = some (f j) := by
  obtain ⟨t, cur, h1, h2, h3⟩ := h
  rw [cell_of_row w H j cur t _ h1]
  exact h3 j hj

theorem Arr16.free {w : World} {H : Nat} {f : Nat → Value} (h : Arr16 w H f) (j : Nat) : w.frozen? ⟨H, j, none⟩ = false := by
  obtain ⟨t, cur, h1, h2, h3⟩ := h
  exact frozen_of_row w H j cur t h1

theorem Arr16.set {w : World} {H : Nat} {f : Nat → Value} (h : Arr16 w H f) (i : Nat) (c : Value) : Arr16 (w.setCell ⟨H, i, none⟩ c) H (updV f i c) := by
  obtain ⟨t, cur, h1, h2, h3⟩ := h
  refine ⟨t, cur.setIfInBounds i c, heap_setCell_same w H i cur t _ h1, by simpa using h2, fun j hj => ?_⟩
  simp only [Array.getElem?_setIfInBounds, updV]
  by_cases e : i = j
  · subst e; rw [if_pos rfl, if_pos (by omega), if_pos rfl]
  · rw [if_neg e, if_neg (fun q => e q.symm)]; exact h3 j hj

theorem Arr16.ext {w : World} {H : Nat} {f f' : Nat → Value} (h : Arr16 w H f) (e : ∀ j, j < 16 → f j = f' j) : Arr16 w H f' := by
  obtain ⟨t, cur, h1, h2, h3⟩ := h
  exact ⟨t, cur, h1, h2, fun j hj => by rw [← e j hj]; exact h3 j hj⟩

/-- Such an array beside a device. -/
structure By (W w : World) (g gs : Nat) (hv : Value) (H : Nat) (f : Nat → Value) : Prop where
  els : Els w g gs hv H
  arr : Arr16 w H f
  lo : W.heap.size ≤ H

section
variable {W w w' : World} {g gs : Nat} {hv hv' : Value} {H : Nat} {f : Nat → Value}
theorem By.below (a : By W w g gs hv H f) (hb : Below w.heap.size w w') : By W w' g gs hv H f := ⟨(a.els.below hb).1, a.arr.kept (a.els.below hb).2, a.lo⟩
theorem By.step (a : By W w g gs hv H f) (h : ∀ k, Els w g gs hv k → Els w' g gs hv' k ∧ w'.heap[k]? = w.heap[k]?) : By W w' g gs hv' H f := ⟨(h H a.els).1, a.arr.kept (h H a.els).2, a.lo⟩
theorem By.set (a : By W w g gs hv H f) (i : Nat) (c : Value) : By W (w.setCell ⟨H, i, none⟩ c) g gs hv H (updV f i c) := ⟨a.els.store _ _, a.arr.set i c, a.lo⟩
theorem By.other (a : By W w g gs hv H f) {H' : Nat} (i : Nat) (c : Value) (ne : H ≠ H') : By W (w.setCell ⟨H', i, none⟩ c) g gs hv H f := ⟨a.els.store _ _, a.arr.kept (Below.heap_setCell _ _ _ _ ne), a.lo⟩
theorem By.drew (a : By W w g gs hv H f) : By W w.drew g gs hv H f := ⟨⟨a.els.1, a.els.2⟩, a.arr.kept rfl, a.lo⟩
end

theorem by_new {W w : World} {g gs : Nat} {hv : Value} {D : DS} (t : One W w g gs hv D) (z : Value) (ty : TypeId) :
    By W (w.alloc (.cells #[z, z, z, z, z, z, z, z, z, z, z, z, z, z, z, z] ty)) g gs hv w.heap.size (fun _ => z) := by
  refine ⟨(t.fresh _).2, ⟨_, _, heap_alloc_new w _, rfl, fun j hj => ?_⟩, t.bel.size⟩
  match j, hj with
  | 0, _ => rfl
  | 1, _ => rfl
  | 2, _ => rfl
  | 3, _ => rfl
  | 4, _ => rfl
  | 5, _ => rfl
  | 6, _ => rfl
  | 7, _ => rfl
  | 8, _ => rfl
  | 9, _ => rfl
  | 10, _ => rfl
  | 11, _ => rfl
  | 12, _ => rfl
  | 13, _ => rfl
  | 14, _ => rfl
  | 15, _ => rfl
  | j + 16, h => exact absurd h (by omega)

/-- Some texts, so far. -/
def upto (f : Nat → ByteArray) (k : Nat) : Nat → Value := fun j => if j < k then .string (f j) else .string ⟨#[]⟩
theorem upto_succ (f : Nat → ByteArray) (k j : Nat) : updV (upto f k) k (.string (f k)) j = upto f (k + 1) j := by
  unfold updV upto
  by_cases e : j = k
  · subst e; rw [if_pos rfl, if_pos (by omega)]
  · rw [if_neg e]
    by_cases h : j < k
    · rw [if_pos h, if_pos (by omega)]
    · rw [if_neg h, if_neg (by omega)]

def cntV (l : List (Nat × ByteArray)) : Nat → Value := fun j => .int .i64 (cntN l j l.length : Int)

theorem cntN_le (l : List (Nat × ByteArray)) (i k : Nat) : cntN l i k ≤ k := by
  induction k with
  | zero => exact Nat.le_refl _
  | succ k ih =>
    rw [cntN]
    cases l[k]? with
    | none => simp only; omega
    | some p => simp only; split <;> omega

theorem cntV_push (l : List (Nat × ByteArray)) (i : Nat) (s : ByteArray) (j : Nat) : updV (cntV l) i (.int .i64 ((cntN l i l.length : Int) + 1)) j = cntV (l ++ [(i, s)]) j := by
  unfold updV cntV
  rw [List.length_append, List.length_singleton, cntN_push]
  by_cases e : j = i
  · subst e; rw [if_pos rfl, if_pos rfl]; rfl
  · rw [if_neg e, if_neg (Ne.symm e)]; rfl

theorem stop_at {S N Wj : ByteArray} {m k : Nat} (hT : S = tear m N Wj) (hN : N.size = 512) (hW : Wj.size = 512) (hk : k ≤ 512) (h : ¬ k < m) : S.extract k 512 = Wj.extract k 512 := by
  subst hT
  exact tear_end m k N Wj hN hW (by omega) hk

theorem differ {S N Wj : ByteArray} {m k : Nat} (hT : S = tear m N Wj) (hm : m ≤ 512) (hN : N.size = 512) (hW : Wj.size = 512) (hkS : k < S.size) (hkN : k < N.size)
    (h : (((S[k]'hkS).toNat : Int) == ((N[k]'hkN).toNat : Int)) = false) : ¬ k < m := by
  intro hlt
  have e := tear_start m k N Wj hN hW hlt hm
  rw [← hT] at e
  have e1 : S.data.toList[k]? = some (S[k]'hkS) := by
    rw [List.getElem?_eq_getElem (by rw [ba_len]; exact hkS)]
    rfl
  have e2 : N.data.toList[k]? = some (N[k]'hkN) := by
    rw [List.getElem?_eq_getElem (by rw [ba_len]; exact hkN)]
    rfl
  rw [e1, e2] at e
  injection e with e
  rw [e] at h
  simp at h

theorem Below.drewN {B : Nat} {a w : World} (h : Below B a w) (n : Nat) : Below B a (w.drewN n) := by
  induction n with
  | zero => exact ⟨h.os, h.tape, h.output, h.size, h.block⟩
  | succ n ih => exact ⟨h.os, h.tape, h.output, h.size, h.block⟩

end Go.Proofs.Ythodnhcnaeajnaa

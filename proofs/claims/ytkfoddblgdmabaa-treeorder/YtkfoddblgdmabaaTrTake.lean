/- A region that draws its order and whose last operation stores: the loads of what it stores into may be taken first. -/
import Derived.Test.YtkfoddblgdmabaaTrMem
import Derived.Deep.RegionHeld3
import Derived.Deep.RegionLaw
namespace Go.Proofs.Ytkfoddblgdmabaa.tr
open Go.RowKit

section
variable {P : Program} {md : Region.Mode} {ops : Array Oper} {Q : Exit → Act → World → Prop} {S : World → Prop} {n : Nat}

/-- Any order of what is left; behind each operation but the one with the number n the world meets S. -/
def AnyL (P : Program) (md : Region.Mode) (ops : Array Oper) (Q : Exit → Act → World → Prop) (S : World → Prop) (n : Nat) : Nat → Array Bool → Act → World → Prop
  | 0, l, a, w => Region.ready md ops l = [] ∧ Q .normal a w
  | k + 1, l, a, w => (Region.ready md ops l = [] → Q .normal a w) ∧ ∀ j ∈ Region.ready md ops l, wpOp P ops Q j (fun a' w' => (j ≠ n → S w') ∧ AnyL P md ops Q S n k (l.setIfInBounds j true) a' w') a w

theorem AnyL.plain (k : Nat) : ∀ (l : Array Bool) (a : Act) (w : World), AnyL P md ops Q S n k l a w → wpAny P md ops Q k l a w := by
  induction k with
  | zero => exact fun _ _ _ h => h
  | succ k ih => exact fun l a w h => ⟨h.1, fun j hj => wpOp_mono (fun a' w' q => ih _ a' w' q.2) (h.2 j hj)⟩

theorem anyL_begin {id : Nat} {a : Act} {w : World} (hm : P.follows .mixedOrders = true) (hS : S w.drew) (h : S w.drew → AnyL P .any ops Q S n ops.size (Array.replicate ops.size false) a w.drew) : (Code.region id ops true).wp P Q a w :=
  wp_region_any hm (AnyL.plain _ _ _ _ (h hS))

/-- Does n wait for i? -/
def waitsFor (md : Region.Mode) (ops : Array Oper) (n i : Nat) : Bool :=
  match ops[n]? with
  | some o => o.after.any (fun e => Region.binds md e && e.on == i)
  | none => false

theorem not_last {i j : Nat} {l : Array Bool} (hw : waitsFor md ops n i = true) (hi : i ∈ Region.ready md ops l) (hj : j ∈ Region.ready md ops l) : j ≠ n := by
  rintro rfl
  obtain ⟨_, o, ho, hall⟩ := mem_ready.1 hj
  have hun := (mem_ready.1 hi).1
  unfold waitsFor at hw
  rw [ho] at hw
  obtain ⟨e, he, hb⟩ := Array.any_eq_true'.1 hw
  rw [Bool.and_eq_true, beq_iff_eq] at hb
  have hin := hall e he hb.1
  rw [hb.2, Array.getD_eq_getD_getElem?] at hin
  rw [Array.getD_eq_getD_getElem?] at hun
  cases hx : l[i]? with
  | none => rw [hx] at hin; cases hin
  | some b => rw [hx] at hin hun; simp at hin hun; rw [hin] at hun; cases hun

theorem takeAny {i : Nat} {oi : Oper} {v : Value} (hi : ops[i]? = some oi) (hsel : Region.noSelect ops = true) (hQ : ∀ c a w, Q (.panic c) (a.put oi.dst v) w → Q (.panic c) a w) (hw : waitsFor md ops n i = true) (k : Nat) :
    ∀ (l : Array Bool) (a : Act) (w : World), (∀ j oj, ops[j]? = some oj → j ≠ i → l.getD j true = false → (∀ e ∈ oj.after, Region.binds md e = true → e.on ≠ i) → oi.apart ops oj = true) → i ∈ Region.ready md ops l → YieldsIf P ops S oi v a → S w →
      AnyL P md ops Q S n k (l.setIfInBounds i true) (a.put oi.dst v) w → AnyL P md ops Q S n (k + 1) l a w := by
  induction k with
  | zero =>
    intro l a w _ hr hy hS H
    refine ⟨fun q => (by rw [q] at hr; cases hr), fun j hj => ?_⟩
    have e : j = i := Decidable.byContradiction fun ne => by
      have q := ready_mono hj ne
      rw [H.1] at q
      cases q
    rw [e]
    exact hy.wpOp hi hS ⟨fun _ => hS, H⟩
  | succ k ih =>
    intro l a w hf hr hy hS H
    refine ⟨fun q => (by rw [q] at hr; cases hr), fun j hj => ?_⟩
    rcases Decidable.em (j = i) with e | ne
    · rw [e]
      exact hy.wpOp hi hS ⟨fun _ => hS, H⟩
    · have hjn := not_last hw hr hj
      obtain ⟨hun, oj, hoj, hall⟩ := mem_ready.1 hj
      have hno : ∀ e ∈ oj.after, Region.binds md e = true → e.on ≠ i := by
        intro e he hb q
        have h1 := hall e he hb
        have h0 := (mem_ready.1 hr).1
        rw [q, Array.getD_eq_getD_getElem?] at h1
        rw [Array.getD_eq_getD_getElem?] at h0
        cases hx : l[i]? with
        | none => rw [hx] at h1; cases h1
        | some b => rw [hx] at h1 h0; simp at h1 h0; rw [h1] at h0; cases h0
      have step := wpOp_putIf hoj (hf j oj hoj ne hun hno) (fun cs b => Region.noSelect_spec hsel i oi cs b hi) (fun cs b => Region.noSelect_spec hsel j oj cs b hoj) hQ hy (H.2 j (ready_mono hj ne))
      refine wpOp_mono (fun a' w' q => ⟨q.2.1, ?_⟩) step
      refine ih _ a' w' (fun m om hm hmi hmu hmn => hf m om hm hmi ?_ hmn) (ready_mono hr (Ne.symm ne)) q.1 (q.2.1 hjn) ?_
      · rcases Decidable.em (j = m) with e | ne'
        · rw [← e]; exact hun
        · rw [getD_set_ne true ne'] at hmu; exact hmu
      · rw [Array.setIfInBounds_comm _ _ ne]
        exact q.2.2

theorem takeL (i d : Nat) {oi : Oper} {v : Value} {k : Nat} {l : Array Bool} {ts : Array Value} {df : List Deferred} {w : World} (hi : ops[i]? = some oi) (hd : oi.dst = some d)
    (hs : Region.noSelect ops = true) (hf : Region.free md ops l i = true) (hr : (Region.ready md ops l).contains i = true) (hw : waitsFor md ops n i = true)
    (hQ : ∀ c a w, Q (.panic c) (a.put (some d) v) w → Q (.panic c) a w) (hy : YieldsIf P ops S oi v ⟨ts, df⟩) (hS : S w)
    (h : AnyL P md ops Q S n k (l.setIfInBounds i true) ⟨ts.setIfInBounds d v, df⟩ w) : AnyL P md ops Q S n (k + 1) l ⟨ts, df⟩ w := by
  refine takeAny hi hs (by rw [hd]; exact hQ) hw k l _ w (Region.free_spec hi hf) (by simpa using hr) hy hS ?_
  rw [hd]
  exact h

/-- What an operation that comes up is asked. -/
def UpL (P : Program) (md : Region.Mode) (ops : Array Oper) (Q : Exit → Act → World → Prop) (S : World → Prop) (n k : Nat) (l : Array Bool) (a : Act) (w : World) (i : Nat) : Prop :=
  wpOp P ops Q i (fun a' w' => (i ≠ n → S w') ∧ AnyL P md ops Q S n k (l.setIfInBounds i true) a' w') a w

theorem upL {k : Nat} {l : Array Bool} {a : Act} {w : World} {i : Nat} {o : Oper} (ho : ops[i]? = some o)
    (h : ∀ K : Act → World → Prop, Shut (∀ a w, (i ≠ n → S w) → ((i ≠ n → S w) → AnyL P md ops Q S n k (l.setIfInBounds i true) a w) → K a w) → if Region.wanted o (yielded ops a.tmps) = true then Oper.wp P o a w K Q else K (a.put o.dst undef) w) : UpL P md ops Q S n k l a w i :=
  wpOp_step ho (fun K hK => h K (fun a w h1 h2 => hK a w ⟨h1, h2 h1⟩))

theorem anyL_one {k : Nat} {l : Array Bool} {a : Act} {w : World} (i : Nat) (hr : Region.ready md ops l = [i]) (h : UpL P md ops Q S n k l a w i) : AnyL P md ops Q S n (k + 1) l a w :=
  ⟨fun q => (by rw [q] at hr; cases hr), fun j hj => by rw [hr, List.mem_singleton] at hj; rw [hj]; exact h⟩
theorem anyL_two {k : Nat} {l : Array Bool} {a : Act} {w : World} (i m : Nat) (hr : Region.ready md ops l = [i, m]) (h : UpL P md ops Q S n k l a w i) (h2 : UpL P md ops Q S n k l a w m) : AnyL P md ops Q S n (k + 1) l a w :=
  ⟨fun q => (by rw [q] at hr; cases hr), fun j hj => by
    rw [hr] at hj
    rcases List.mem_cons.1 hj with e | q
    · rw [e]; exact h
    · rw [List.mem_singleton] at q; rw [q]; exact h2⟩
theorem anyL_done {l : Array Bool} {a : Act} {w : World} (hr : Region.ready md ops l = []) (h : Q .normal a w) : ∀ k, AnyL P md ops Q S n k l a w
  | 0 => ⟨hr, h⟩
  | _ + 1 => ⟨fun _ => h, by rw [hr]; exact fun _ q => by cases q⟩
end
end Go.Proofs.Ytkfoddblgdmabaa.tr

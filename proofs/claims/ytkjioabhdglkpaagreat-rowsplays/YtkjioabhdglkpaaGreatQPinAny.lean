/- Pin, whatever the state. -/
import Derived.Test.YtkjioabhdglkpaaGreatQState
namespace Go.Proofs.YtkjioabhdglkpaaGreat
open Go.RowKit

def PX.st (x : PX) : St := ⟨x.n, frs x.L, x.rd, x.wr, x.D⟩

/-- A pool that nobody has a frame of in hand. -/
structure Good (b : Nat) (x : PX) : Prop where
  fv : x.fv = x.hv
  O : x.O = []
  ok : OkS b x.st

theorem Good.mono {b c : Nat} {x : PX} (h : Good b x) (hc : b ≤ c) : Good c x := ⟨h.fv, h.O, h.ok.mono hc⟩

theorem frs_len (L : List (Nat × Fm)) : (frs L).length = L.length := by simp [frs]
theorem frs_append (L M : List (Nat × Fm)) : frs (L ++ M) = frs L ++ frs M := by simp [frs]
theorem frs_erase (L : List (Nat × Fm)) (i : Nat) : frs (L.eraseIdx i) = (frs L).eraseIdx i := by
  rw [List.eraseIdx_eq_take_drop_succ, List.eraseIdx_eq_take_drop_succ]
  simp [frs]

section
variable {B bd : Nat} {w : World} {x : PX}

theorem Good.L (k : Good bd x) {i b : Nat} {f : Fm} (hi : x.L[i]? = some (b, f)) : f.pg < x.D.n ∧ f.s.size = 512 ∧ f.pins ≤ bd :=
  k.ok.pg f (List.mem_of_getElem? (frs_of hi))
theorem Good.len (k : Good bd x) : x.L.length ≤ 64 := by
  have h1 := k.ok.len
  have h2 := k.ok.n.2
  have e : x.st.l.length = x.L.length := frs_len _
  omega

theorem take_any (h : Pd B w x) (k : Good bd x) (hbd : bd ≤ 9000000) (hB : B ≤ w.heap.size) :
    ((takeS x.st).1 ≠ 0 ∧ Calls Tryz.prog 145 #[.pointer (some ⟨x.p, 0, none⟩)] w fun e w' => e = .returned (.tuple #[.pointer none, .int .i64 (takeS x.st).1]) ∧ ∃ x1, PTo B w x x1 w' ∧ (x1.st = (takeS x.st).2 ∧ x1.fv = x1.hv ∧ x1.O = [])) ∨
    ((takeS x.st).1 = 0 ∧ ∃ b, Calls Tryz.prog 145 #[.pointer (some ⟨x.p, 0, none⟩)] w fun e w' => e = .returned (.tuple #[.pointer (some ⟨b, 0, none⟩), .int .i64 0]) ∧ ∃ x1, PTo B w x x1 w' ∧ (x1.st = (takeS x.st).2 ∧ x1.fv = x1.hv ∧ x1.O = [(b, Fm0)])) := by
  have hlen := h.len
  rw [k.O] at hlen
  simp only [List.length_nil, Nat.add_zero] at hlen
  have hl := k.len
  have el : x.st.l.length = x.L.length := frs_len _
  have en : x.st.n = x.n := rfl
  cases hF : x.F with
  | cons b F =>
    have e : takeS x.st = (0, x.st) := by
      unfold takeS
      rw [if_neg]
      rw [hF] at hlen
      simp at hlen
      omega
    rw [e]
    refine Or.inr ⟨rfl, b, (take_free h k.O hF).mono ?_⟩
    rintro e w' ⟨rfl, t⟩
    exact ⟨rfl, _, t, rfl, k.fv, rfl⟩
  | nil =>
    rw [hF] at hlen
    simp at hlen
    have hc : x.st.l.length = x.st.n := by omega
    rcases unL_get x.L 0 0 with ⟨u1, u2⟩ | ⟨i, ⟨b, f⟩, u1, u2, u3⟩
    · have hU : unL x.L = [] := by
        cases hu : unL x.L with
        | nil => rfl
        | cons y r => rw [hu] at u1; simp at u1
      have hA : uAt x.st.l 0 = [] := by
        show uAt (frs x.L) 0 = []
        cases hu : uAt (frs x.L) 0 with
        | nil => rfl
        | cons y r => rw [hu] at u2; simp at u2
      have e : takeS x.st = (70, x.st) := by
        unfold takeS
        rw [if_pos hc, hA]
      rw [e]
      refine Or.inl ⟨show (70 : Int) ≠ 0 by decide, (take_pinned h k.fv (by omega) hF hU).mono ?_⟩
      rintro e w' ⟨rfl, t⟩
      exact ⟨rfl, _, t, rfl, k.fv, k.O⟩
    · obtain ⟨U, hU⟩ : ∃ U, unL x.L = (b, f) :: U := by
        cases hu : unL x.L with
        | nil => rw [hu] at u1; simp at u1
        | cons y r => rw [hu] at u1; simp at u1; subst u1; exact ⟨r, rfl⟩
      obtain ⟨V, hV⟩ : ∃ V, uAt x.st.l 0 = i :: V := by
        show ∃ V, uAt (frs x.L) 0 = i :: V
        cases hu : uAt (frs x.L) 0 with
        | nil => rw [hu] at u2; simp at u2
        | cons y r => rw [hu] at u2; simp at u2; subst u2; exact ⟨r, rfl⟩
      have e : takeS x.st = giveS x.st i f := by
        unfold takeS
        rw [if_pos hc, hV]
        simp only
        rw [show x.st.l[i]? = some f from frs_of u3]
      obtain ⟨p1, p2, p3⟩ := k.L u3
      have hwr : x.wr ≤ 100000000 := by have := k.ok.wr; have e : x.st.wr = x.wr := rfl; omega
      rw [e]
      unfold giveS
      by_cases he : wrE x.st.D f = 0
      · rw [if_pos he]
        refine Or.inr ⟨rfl, b, (take_old h k.fv (by omega) hF hU u3 k.O bd k.ok.inv (by omega) p1 p2 hwr hB he).mono ?_⟩
        rintro e w' ⟨rfl, dv, hv, t⟩
        refine ⟨rfl, _, t, ?_, rfl, rfl⟩
        simp only [PX.st, frs_erase]
      · rw [if_neg he]
        refine Or.inl ⟨he, (take_no h k.fv (by omega) hF hU u3 k.O bd k.ok.inv (by omega) p1 p2 hwr hB he).mono ?_⟩
        rintro e w' ⟨rfl, dv, t⟩
        exact ⟨rfl, _, t, rfl, k.fv, k.O⟩

theorem pin_any (h : Pd B w x) (k : Good bd x) (hbd : bd ≤ 9000000) (hB : B ≤ w.heap.size) (a : Int) :
    Calls Tryz.prog 83 #[.pointer (some ⟨x.p, 0, none⟩), .int .i64 a] w fun e w' => e = .returned (.tuple #[.string (pinS x.st a).1.1, .int .i64 (pinS x.st a).1.2]) ∧ ∃ x', PTo B w x x' w' ∧ x'.st = (pinS x.st a).2 ∧ Good (bd + 2) x' := by
  have hl := k.len
  have hok := k.ok.pin a
  by_cases ha : 0 ≤ a ∧ a < (x.D.n : Int)
  · have ha' : 0 ≤ a ∧ a < (x.st.D.n : Int) := ha
    cases hx : idx x.st.l a with
    | some i =>
      obtain ⟨f, hf, hfa, hbef⟩ := idx_some hx
      obtain ⟨b, hb⟩ := frs_get hf
      obtain ⟨p1, p2, p3⟩ := k.L hb
      have e : pinS x.st a = ((f.s, 0), { x.st with l := x.st.l.eraseIdx i ++ [{ f with pins := f.pins + 1 }] }) := by
        unfold pinS
        rw [if_pos ha', hx]
        simp only
        rw [hf]
      rw [e] at hok ⊢
      refine (pin_held h k.fv (by omega) k.O a ha hB hb hfa (fun j b' f' hj hL => hbef j f' hj (frs_of hL)) p2 (by omega)).mono ?_
      rintro e w' ⟨rfl, hv, t⟩
      have es : PX.st { x with fv := hv, hv := hv, L := x.L.eraseIdx i ++ [(b, { f with pins := f.pins + 1 })] } = { x.st with l := x.st.l.eraseIdx i ++ [{ f with pins := f.pins + 1 }] } := by
        simp only [PX.st, frs_append, frs_erase]
        rfl
      exact ⟨rfl, _, t, es, ⟨rfl, k.O, by rw [es]; exact hok⟩⟩
    | none =>
      have hno : ∀ (i b : Nat) (f : Fm), x.L[i]? = some (b, f) → (f.pg : Int) ≠ a := fun i b f hL => idx_none hx i f (frs_of hL)
      obtain ⟨i, rfl⟩ : ∃ i : Nat, a = (i : Int) := ⟨a.toNat, by omega⟩
      have hin : i < x.D.n := by omega
      have e : pinS x.st (i : Int) = if (takeS x.st).1 = 0 then readS (takeS x.st).2 i else ((⟨#[]⟩, (takeS x.st).1), (takeS x.st).2) := by
        unfold pinS
        rw [if_pos ha', hx]
        simp only [Int.toNat_natCast]
      have hT := k.ok.take
      have hTD := takeS_D x.st
      rcases take_any h k hbd hB with ⟨h0, c⟩ | ⟨h0, b, c⟩
      · rw [if_neg h0] at e
        rw [e] at hok ⊢
        refine (pin_err h k.fv (by omega) _ ha hno _ h0 _ (load_err _ _ h0 _ c)).mono ?_
        rintro e w' ⟨rfl, x1, t, k1, k2, k3⟩
        exact ⟨rfl, x1, t, k1, ⟨k2, k3, by rw [k1]; exact hok⟩⟩
      · rw [if_pos h0] at e
        obtain ⟨r1, _⟩ := takeS_ok k.ok h0
        by_cases hleft : (takeS x.st).2.D.left = 0
        · have e2 : readS (takeS x.st).2 i = ((⟨#[]⟩, 41), (takeS x.st).2) := by unfold readS; rw [if_pos hleft]
          rw [e2] at e
          rw [e] at hok ⊢
          have cl := load_down b i _ c (takeS x.st).2.D (bd + 1) hT.inv (by rw [hTD]; exact hin) hleft (fun x1 q => ⟨q.2.2, by rw [← q.1]; rfl⟩)
          have cl2 := cl.mono (R' := fun e w' => e = .returned (.tuple #[.pointer none, .int .i64 41]) ∧ ∃ x1, PTo B w x x1 w' ∧ (x1.st = (takeS x.st).2 ∧ x1.fv = x1.hv ∧ x1.O = [])) (by
            rintro e w' ⟨rfl, x1, t, k1, k2, k3⟩
            exact ⟨rfl, _, t, k1, k2, rfl⟩)
          refine (pin_err h k.fv (by omega) _ ha hno 41 (by decide) _ cl2).mono ?_
          rintro e w' ⟨rfl, x1, t, k1, k2, k3⟩
          exact ⟨rfl, x1, t, k1, ⟨k2, k3, by rw [k1]; exact hok⟩⟩
        · have e2 : readS (takeS x.st).2 i = (((takeS x.st).2.D.seen i, 0), { (takeS x.st).2 with rd := (takeS x.st).2.rd + 1, l := (takeS x.st).2.l ++ [⟨i, (takeS x.st).2.D.seen i, 1, false⟩] }) := by unfold readS; rw [if_neg hleft]
          rw [e2] at e
          rw [e] at hok ⊢
          have hrd := hT.rd
          have cl := load_ok b i _ c (takeS x.st).2.D (bd + 1) hT.inv (by rw [hTD]; exact hin) hleft (fun x1 q => ⟨q.2.2, by rw [← q.1]; rfl, Nat.le_trans (Nat.le_of_eq (congrArg St.rd q.1)) (by omega)⟩)
          have cl2 := cl.mono (R' := fun e w' => e = .returned (.tuple #[.pointer (some ⟨b, 0, none⟩), .int .i64 0]) ∧ ∃ x1, PTo B w x x1 w' ∧ (x1.st = { (takeS x.st).2 with rd := (takeS x.st).2.rd + 1 } ∧ x1.fv = x1.hv ∧ x1.O = [(b, ⟨i, (takeS x.st).2.D.seen i, 0, false⟩)])) (by
            rintro e w' ⟨rfl, x1, t, k1, k2, k3⟩
            refine ⟨rfl, _, t, ?_, k2, rfl⟩
            rw [← k1]
            rfl)
          have hlT : ∀ x1 : PX, x1.st = { (takeS x.st).2 with rd := (takeS x.st).2.rd + 1 } → x1.L.length ≤ 1000 := fun x1 q => by
            have h1 : x1.st.l.length ≤ 64 := by
              rw [q]
              exact Nat.le_trans hT.len hT.n.2
            have h2 : x1.st.l.length = x1.L.length := frs_len _
            omega
          refine (pin_new h k.fv (by omega) _ ha hB hno b _ (hT.inv.seenSize i (by rw [hTD]; exact hin)) rfl _ cl2 (fun x1 q => ⟨q.2.2, q.2.1, hlT x1 q.1⟩)).mono ?_
          rintro e w' ⟨rfl, x1, hv, t, k1, k2, k3⟩
          have es : PX.st { x1 with fv := hv, hv := hv, L := x1.L ++ [(b, ⟨i, (takeS x.st).2.D.seen i, 1, false⟩)], O := [] } = { (takeS x.st).2 with rd := (takeS x.st).2.rd + 1, l := (takeS x.st).2.l ++ [⟨i, (takeS x.st).2.D.seen i, 1, false⟩] } := by
            have q1 : frs x1.L = (takeS x.st).2.l := congrArg St.l k1
            have q2 : x1.rd = (takeS x.st).2.rd + 1 := congrArg St.rd k1
            have q3 : x1.wr = (takeS x.st).2.wr := congrArg St.wr k1
            have q4 : x1.n = (takeS x.st).2.n := congrArg St.n k1
            have q5 : x1.D = (takeS x.st).2.D := congrArg St.D k1
            simp only [PX.st, frs_append, q1, q2, q3, q4, q5]
            rfl
          exact ⟨rfl, _, t, es, ⟨rfl, rfl, by rw [es]; exact hok⟩⟩
  · have e : pinS x.st a = ((⟨#[]⟩, 40), x.st) := by
      unfold pinS
      rw [if_neg (show ¬ (0 ≤ a ∧ a < (x.st.D.n : Int)) from ha)]
    rw [e] at hok ⊢
    refine (pin_place h a ha).mono ?_
    rintro e w' ⟨rfl, rfl⟩
    exact ⟨rfl, x, PTo.refl h, rfl, ⟨k.fv, k.O, hok⟩⟩
end
end Go.Proofs.YtkjioabhdglkpaaGreat

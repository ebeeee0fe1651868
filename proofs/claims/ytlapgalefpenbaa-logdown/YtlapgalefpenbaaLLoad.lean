/- load. -/
import Derived.Test.YtlapgalefpenbaaLTexts
import Derived.Test.YtlapgalefpenbaaLFlush
namespace Go.Proofs.Ytlapgalefpenbaa
open Go.RowKit

/-- A log that has nothing yet. -/
def LS0 : LS := ⟨0, 0, 0, ⟨#[]⟩, [], false⟩

section
variable {B b : Nat} {w : World} {lb g gs : Nat} {hv : Value} {D : DS}

set_option maxHeartbeats 800000 in
set_option maxRecDepth 100000 in
theorem load_none (l : Lg B w lb g gs hv (.slice none 0 0) D LS0) (hin : 0 < D.n) (hl : D.left ≠ 0) (h0 : D.seen 0 = blk 0) :
    Calls Try.prog 43 #[.pointer (some ⟨lb, 0, none⟩)] w fun e w' => e = .panicked (pan 11) ∧ LTo B w lb g gs hv (.slice none 0 0) D LS0 w' := by
  have cF := find_none (lcell l.log).1 l.dev hin hl h0
  have hne : ∀ w : World, (binOp BinOp.eql 79 (.agg #[.int .i64 0, .int .i64 0, .int .i64 0]) (.agg #[.int .i64 0, .int .i64 0, .int .i64 0])).run Try.prog w = .ok (.bool true) w := fun _ => by kernel_rfl
  go_enter Try.func43, Try.ntmps43
  go_wp2_with fail
  refine cF.mono ?_
  rintro e w1 ⟨rfl, b1⟩
  have l1 := l.below b1
  obtain ⟨_, x1, x2, x3, _⟩ := lcell l1.log
  have y1 := l1.free 1
  have y2 := l1.free 2
  have y3 := l1.free 3
  have l2 := ((l1.put 1 (.int .i64 0) LS0 rfl rfl).put 2 (.int .i64 0) LS0 rfl rfl).put 3 (.int .i64 0) LS0 rfl rfl
  have f2 := (((Fr.of_below (F := footL lb g gs hv (.slice none 0 0)) b1).set (p := ⟨lb, 1, none⟩) (Or.inl (Or.inl rfl)) (.int .i64 0)).set (p := ⟨lb, 2, none⟩) (Or.inl (Or.inl rfl)) (.int .i64 0)).set (p := ⟨lb, 3, none⟩) (Or.inl (Or.inl rfl)) (.int .i64 0)
  go_wp2_with fail
  exact ⟨rfl, rfl, hv, _, l2, f2, fun _ e => Or.inl e⟩

set_option maxHeartbeats 1600000 in
set_option maxRecDepth 100000 in
theorem load_good (l : Lg B w lb g gs hv (.slice none 0 0) D LS0) (hi : Inv b D) (hb : b ≤ 100000) (hB : B ≤ w.heap.size) (h8 : 8 ≤ D.n) (hl : D.left ≠ 0) (A : Nat) (hA : A = areaN D.n) (P : PS) (hP : Holds A D.seen P) (hm : mark D.seen = some (UInt8.ofNat P.slot)) (t : ByteArray) (r : List ByteArray) (hT : P.T = t :: r) :
    Calls Try.prog 43 #[.pointer (some ⟨lb, 0, none⟩)] w fun e w' => e = .returned (.tuple #[]) ∧ LTo B w lb g gs hv (.slice none 0 0) D.flushed ⟨P.slot, P.area, P.used, t, r, false⟩ w' := by
  have hn := hi.n.2
  have hus : 1 ≤ P.used := by rw [hP.used, hT]; unfold secsL secs; omega
  have hrm := hP.room
  have hA4 : 2 * A + 4 ≤ D.n ∧ A ≤ 4096 := by rw [hA]; unfold areaN; omega
  have cF := find_good (lcell l.log).1 l.dev h8 hn hl hi.seenSize A hA P hP hm hus
  have hslot := hP.slot
  have hne : ∀ w : World, (binOp BinOp.eql 79 (.agg #[.int .i64 (P.slot : Int), .int .i64 (P.area : Int), .int .i64 (P.used : Int)]) (.agg #[.int .i64 0, .int .i64 0, .int .i64 0])).run Try.prog w = .ok (.bool false) w := by
    intro w
    rcases hslot with e | e <;> rw [e] <;> kernel_rfl
  have cT := fun w d c0 c2 c3 => texts_any (B := B) (w := w) (lb := lb) (g := g) (gs := gs) (hv := hv) (D := D) d h8 hn hl A hA P hP c0 c2 c3
  rw [hT] at cT
  have hds : dstep D none = (none, D.flushed) := by rw [dstep_none, if_neg hl]
  have cFl := fun w d hc => lflush_any (B := B) (b := b) (w := w) (lb := lb) (g := g) (gs := gs) (hv := hv) (D := D) hc d hi hb
  rw [hds] at cFl
  simp only [dexit] at cFl
  obtain ⟨slot, area, used, T⟩ := P
  simp only at *
  clear hP hm hA hT hds
  go_enter Try.func43, Try.ntmps43
  go_wp2_with fail
  refine cF.mono ?_
  rintro e w1 ⟨rfl, b1⟩
  have l1 := l.below b1
  obtain ⟨_, x1, x2, x3, _⟩ := lcell l1.log
  have y1 := l1.free 1
  have y2 := l1.free 2
  have y3 := l1.free 3
  have l2 := ((l1.put 1 (.int .i64 (slot : Int)) { LS0 with slot := slot } rfl rfl).put 2 (.int .i64 (area : Int)) { LS0 with slot := slot, area := area } rfl rfl).put 3 (.int .i64 (used : Int)) { LS0 with slot := slot, area := area, used := used } rfl rfl
  have f2 := (((Fr.of_below (F := footL lb g gs hv (.slice none 0 0)) b1).set (p := ⟨lb, 1, none⟩) (Or.inl (Or.inl rfl)) (.int .i64 (slot : Int))).set (p := ⟨lb, 2, none⟩) (Or.inl (Or.inl rfl)) (.int .i64 (area : Int))).set (p := ⟨lb, 3, none⟩) (Or.inl (Or.inl rfl)) (.int .i64 (used : Int))
  go_wp2_with fail
  generalize (((w1.setCell ⟨lb, 1, none⟩ (.int .i64 (slot : Int))).setCell ⟨lb, 2, none⟩ (.int .i64 (area : Int))).setCell ⟨lb, 3, none⟩ (.int .i64 (used : Int))) = w2 at l2 f2 ⊢
  obtain ⟨z0, z1, z2, z3, _⟩ := lcell l2.log
  refine (cT w2 l2.dev z0 z2 z3).mono ?_
  rintro e w3 ⟨v, rfl, ho3, b3⟩
  have l3 := l2.below b3
  rcases ho3.2 with ⟨_, h0⟩ | ⟨tb, cap, cur, rfl, htb, hh, hcap, hcm, hcs, htk⟩
  · simp at h0
  have k0 : w3.cell? ⟨tb, 0, none⟩ = some (.string t) := by
    have := ho3.cellAt 0 (by simp)
    simpa using this
  obtain ⟨_, _, _, _, q4, q5, _⟩ := lcell l3.log
  have u4 := l3.free 4
  have u5 := l3.free 5
  have hne2 : ¬ tb = lb := fun e => by have := l2.lt lb (Or.inl rfl); omega
  have hne3 : ¬ lb = tb := fun e => hne2 e.symm
  have hcap2 : r.length + 1 ≤ cap := hcap
  obtain ⟨cp, rfl⟩ : ∃ cp, cap = cp + 1 := ⟨cap - 1, by omega⟩
  rw [show (t :: r).length = r.length + 1 from rfl] at hcap ⊢
  have hcp : r.length ≤ cp := by omega
  have i2 : (r.length : Int) ≤ (cp : Int) := by omega
  have i1 : (1 : Int) ≤ (r.length : Int) + 1 := by omega
  have i3 : (0 : Int) < (r.length : Int) + 1 := by omega
  go_wp2_with fail
  go_region_held3 (fun W => W.cell? ⟨tb, 0, none⟩ = some (.string t))
    (first | exact k0 | go_keep)
    (fail)
  obtain ⟨V, hV⟩ : ∃ V, V = Value.slice (if cp = 0 then some ⟨tb, 0, none⟩ else some ⟨tb, 1, none⟩) r.length cp := ⟨_, rfl⟩
  rw [← hV]
  have hrow : Row w3 B V r := by
    have hget : ∀ i x, r[i]? = some x → cur[1 + i]? = some (.string x) := by
      intro i x hx
      have hi : i < r.length := (List.getElem?_eq_some_iff.1 hx).1
      have := congrArg (·[1 + i]?) htk
      simp only [List.getElem?_take] at this
      rw [if_pos (by show 1 + i < (t :: r).length * 1; simp; omega)] at this
      rw [← Array.getElem?_toList, this, show 1 + i = i + 1 by omega]
      simp [hx]
    have hBt : B ≤ tb := Nat.le_trans (Nat.le_trans hB f2.size) htb
    have hcm2 : cp ≤ maxLen := by omega
    by_cases hcp0 : cp = 0
    · have hr0 : r = [] := List.eq_nil_of_length_eq_zero (by omega)
      subst hr0
      rw [hV, if_pos hcp0]
      exact Or.inr ⟨tb, 0, cp, cur, rfl, hBt, hh, hcp, by omega, hcm2, fun i x hx => by simp at hx⟩
    · rw [hV, if_neg hcp0]
      exact Or.inr ⟨tb, 1, cp, cur, rfl, hBt, hh, hcp, by omega, hcm2, hget⟩
  have hVb : ∀ k, V.ownBlock = some k → k = tb := by
    intro k hk
    rw [hV] at hk
    by_cases hcp0 : cp = 0
    · rw [if_pos hcp0] at hk
      simp [Value.ownBlock] at hk
      exact hk.symm
    · rw [if_neg hcp0] at hk
      simp [Value.ownBlock] at hk
      exact hk.symm
  have hV2 : ∃ a n c, V = .slice a n c := ⟨_, _, _, hV⟩
  clear hV
  have hfr : ∀ k, V.ownBlock = some k → k ≠ lb ∧ ¬ foot g gs hv k := fun k hk => by
    rw [hVb k hk]
    exact ⟨hne2, fun x => by have := l2.dev.lt tb x; omega⟩
  have l4 := (l3.put 4 (.string t) ⟨slot, area, used, t, [], false⟩ rfl rfl).setRow V r (hrow.kept (fun k hk => Below.heap_setCell _ _ _ _ (hfr k hk).1)) hfr
  have l5 : Lg B ((w3.setCell ⟨lb, 4, none⟩ (.string t)).setCell ⟨lb, 5, none⟩ V).drew lb g gs hv V D ⟨slot, area, used, t, r, false⟩ := l4.kept (fun _ _ => rfl)
  have f5 : Fr (footL lb g gs hv (.slice none 0 0)) w ((w3.setCell ⟨lb, 4, none⟩ (.string t)).setCell ⟨lb, 5, none⟩ V).drew :=
    (((f2.trans (Fr.of_below (F := footL lb g gs hv (.slice none 0 0)) b3) (fun _ _ x => x)).set (p := ⟨lb, 4, none⟩) (Or.inl (Or.inl rfl)) _).set (p := ⟨lb, 5, none⟩) (Or.inl (Or.inl rfl)) _).drew
  generalize ((w3.setCell ⟨lb, 4, none⟩ (.string t)).setCell ⟨lb, 5, none⟩ V).drew = w5 at l5 f5 ⊢
  have hg5 : ∀ k, footL lb g gs hv V k → footL lb g gs hv (.slice none 0 0) k ∨ w.heap.size ≤ k := by
    rintro k (x | x | x)
    · exact Or.inl (Or.inl x)
    · exact Or.inl (Or.inr (Or.inl x))
    · rw [hVb k x]
      exact Or.inr (Nat.le_trans f2.size htb)
  go_wp2_with fail
  refine (cFl _ l5.dev (lcell l5.log).1).mono ?_
  rintro e w6 ⟨rfl, z6⟩
  go_wp2_with fail
  go_end0
  exact ⟨rfl, LTo.after f5 hg5 (l5.did z6)⟩
end

end Go.Proofs.Ytlapgalefpenbaa

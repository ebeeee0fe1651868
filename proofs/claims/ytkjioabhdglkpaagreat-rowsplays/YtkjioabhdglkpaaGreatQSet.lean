/- findPinned, Set, Unpin. -/
import Derived.Test.YtkjioabhdglkpaaGreatQPinAny
namespace Go.Proofs.YtkjioabhdglkpaaGreat
open Go.RowKit

section
variable {B bd : Nat} {w : World} {x : PX}

set_option maxHeartbeats 1600000 in
set_option maxRecDepth 100000 in
theorem fp_none (h : Pd B w x) (hf : x.fv = x.hv) (hl : x.L.length ≤ 1000) (a : Int) (hno : ∀ (i b : Nat) (f : Fm), x.L[i]? = some (b, f) → (f.pg : Int) ≠ a) :
    Calls Tryz.prog 114 #[.pointer (some ⟨x.p, 0, none⟩), .int .i64 a] w fun e w' => e = .returned (.tuple #[.pointer none, .int .i64 60]) ∧ w' = w := by
  have cF := find_any h hf hl a (.pointer none) (show Hid _ from Or.inl ⟨hno, rfl⟩)
  clear h hf hno
  go_enter Tryz.func114, Tryz.ntmps114
  go_wp2_with (go_at_call 48; refine cF.mono ?_; rintro e w1 ⟨rfl, rfl⟩)
  go_ret2
  exact ⟨rfl, rfl⟩

set_option maxHeartbeats 1600000 in
set_option maxRecDepth 100000 in
theorem fp_at (h : Pd B w x) (hf : x.fv = x.hv) (hl : x.L.length ≤ 1000) (a : Int) {i b : Nat} {f : Fm} (hi : x.L[i]? = some (b, f)) (hfa : (f.pg : Int) = a) (hbef : ∀ (j b' : Nat) (f' : Fm), j < i → x.L[j]? = some (b', f') → (f'.pg : Int) ≠ a) :
    Calls Tryz.prog 114 #[.pointer (some ⟨x.p, 0, none⟩), .int .i64 a] w fun e w' => e = .returned (.tuple (if f.pins = 0 then #[.pointer none, .int .i64 60] else #[.pointer (some ⟨b, 0, none⟩), .int .i64 0])) ∧ w' = w := by
  have cF := find_any h hf hl a (.pointer (some ⟨b, 0, none⟩)) (show Hid _ from Or.inr ⟨i, b, f, hi, hfa, rfl, hbef⟩)
  obtain ⟨_, _, f2, _⟩ := fobj_cell (h.inL hi).1
  clear h hf hfa hbef hi
  by_cases hp : f.pins = 0
  · rw [if_pos hp]
    have f2z : w.cell? ⟨b, 2, none⟩ = some (.int .i64 0) := by rw [f2, hp]; rfl
    clear f2 hp
    go_enter Tryz.func114, Tryz.ntmps114
    go_wp2_with (go_at_call 48; refine cF.mono ?_; rintro e w1 ⟨rfl, rfl⟩)
    go_ret2
    exact ⟨rfl, rfl⟩
  · rw [if_neg hp]
    have hp2 : ((f.pins : Int) == 0) = false := by simp; omega
    clear hp
    go_enter Tryz.func114, Tryz.ntmps114
    go_wp2_with (go_at_call 48; refine cF.mono ?_; rintro e w1 ⟨rfl, rfl⟩)
    go_ret2
    exact ⟨rfl, rfl⟩

set_option maxHeartbeats 1600000 in
set_option maxRecDepth 100000 in
theorem set_no (a : Int) (s : ByteArray) (p : Nat) (v : Value) (E : Int) (hE : E ≠ 0) (c : Calls Tryz.prog 114 #[.pointer (some ⟨p, 0, none⟩), .int .i64 a] w fun e w' => e = .returned (.tuple #[v, .int .i64 E]) ∧ w' = w) :
    Calls Tryz.prog 147 #[.pointer (some ⟨p, 0, none⟩), .int .i64 a, .string s] w fun e w' => e = .returned (.int .i64 E) ∧ w' = w := by
  have he2 : (E == 0) = false := by simpa using hE
  clear hE
  go_enter Tryz.func147, Tryz.ntmps147
  go_wp2_with fail
  refine c.mono ?_
  rintro e w1 ⟨rfl, rfl⟩
  go_wp2_with fail
  go_ret
  exact ⟨rfl, rfl⟩

set_option maxHeartbeats 1600000 in
set_option maxRecDepth 100000 in
theorem set_long (a : Int) (s : ByteArray) (p b : Nat) (hs : s.size ≠ 512) (c : Calls Tryz.prog 114 #[.pointer (some ⟨p, 0, none⟩), .int .i64 a] w fun e w' => e = .returned (.tuple #[.pointer (some ⟨b, 0, none⟩), .int .i64 0]) ∧ w' = w) :
    Calls Tryz.prog 147 #[.pointer (some ⟨p, 0, none⟩), .int .i64 a, .string s] w fun e w' => e = .returned (.int .i64 2) ∧ w' = w := by
  have he2 : ((s.size : Int) == 512) = false := by simp; omega
  clear hs
  go_enter Tryz.func147, Tryz.ntmps147
  go_wp2_with fail
  refine c.mono ?_
  rintro e w1 ⟨rfl, rfl⟩
  go_wp2_with fail
  go_ret
  exact ⟨rfl, rfl⟩

set_option maxHeartbeats 1600000 in
set_option maxRecDepth 100000 in
theorem set_ok (h : Pd B w x) (hf : x.fv = x.hv) (hl : x.L.length ≤ 1000) (hO : x.O = []) (a : Int) (s : ByteArray) (hs : s.size = 512) (hB : B ≤ w.heap.size) {i b : Nat} {f : Fm} (hi : x.L[i]? = some (b, f)) (c : Calls Tryz.prog 114 #[.pointer (some ⟨x.p, 0, none⟩), .int .i64 a] w fun e w' => e = .returned (.tuple #[.pointer (some ⟨b, 0, none⟩), .int .i64 0]) ∧ w' = w) :
    Calls Tryz.prog 147 #[.pointer (some ⟨x.p, 0, none⟩), .int .i64 a, .string s] w fun e w' => e = .returned (.int .i64 0) ∧ ∃ hv', PTo B w x { x with fv := hv', hv := hv', L := x.L.eraseIdx i ++ [(b, { f with s := s, dirty := true })] } w' := by
  have he2 : ((s.size : Int) == 512) = true := by simp; omega
  have cC := clone_any s w (by omega)
  have H : Hid (Pd B w x) := h
  have HF : Hid (x.fv = x.hv) := hf
  have HI : Hid (x.L[i]? = some (b, f)) := hi
  have HO : Hid (x.O = []) := hO
  clear h hf hi hO hs
  go_enter Tryz.func147, Tryz.ntmps147
  go_wp2_with fail
  refine c.mono ?_
  rintro e w1 ⟨rfl, hw1⟩
  subst hw1
  clear c
  go_wp2_with fail
  refine cC.mono ?_
  rintro e w2 ⟨rfl, b2⟩
  clear cC
  have h2 := H.out.below b2
  have hB2 : B ≤ w2.heap.size := Nat.le_trans hB b2.size
  have t2 := h2.setL HI.out HO.out ((fr_set w2 b 1 (.string s)).set (p := ⟨b, 3, none⟩) (Or.inl rfl) (.bool true)) (f' := { f with s := s, dirty := true }) (fobj_set3 (fobj_set1 (h2.inL HI.out).1 s) true)
  have hlt : i < x.L.length := (List.getElem?_eq_some_iff.1 HI.out).1
  have hi1 : (x.L.set i (b, { f with s := s, dirty := true }))[i]? = some (b, { f with s := s, dirty := true }) := by simp [hlt]
  have cU := use_any t2.pd HF.out (by simpa using hl) b { f with s := s, dirty := true } (Or.inl ⟨⟨i, hi1⟩, HO.out⟩) (by simpa using hB2)
  have eU : usedL (x.L.set i (b, { f with s := s, dirty := true })) b { f with s := s, dirty := true } = x.L.eraseIdx i ++ [(b, { f with s := s, dirty := true })] := by
    unfold usedL
    rw [(filt_in hi1 t2.pd.ndL).1, List.eraseIdx_set_eq]
  rw [eU] at cU
  simp only at cU
  have T2 : Hid (PTo B w2 x _ _) := t2
  obtain ⟨f0, f1, f2, f3⟩ := fobj_cell (h2.inL HI.out).1
  have z1 := fobj_free (h2.inL HI.out).1 1
  have z3 := fobj_free (h2.inL HI.out).1 3
  clear h2 t2 hi1 eU
  go_wp2_with fail
  refine cU.mono ?_
  rintro e w3 ⟨rfl, hv3, t3⟩
  have T3 : Hid (PTo B _ _ _ w3) := t3
  clear t3 cU
  go_wp2_with fail
  go_ret
  refine ⟨rfl, hv3, ?_⟩
  rw [show ({ x with fv := hv3, hv := hv3, L := x.L.eraseIdx i ++ [(b, { f with s := s, dirty := true })] } : PX) = { x with fv := hv3, hv := hv3, L := x.L.eraseIdx i ++ [(b, { f with s := s, dirty := true })], O := [] } by rw [← HO.out]]
  exact (PTo.of_below H.out b2).trans (T2.out.trans T3.out)

set_option maxHeartbeats 1600000 in
set_option maxRecDepth 100000 in
theorem unpin_no (a : Int) (p : Nat) (v : Value) (E : Int) (hE : E ≠ 0) (c : Calls Tryz.prog 114 #[.pointer (some ⟨p, 0, none⟩), .int .i64 a] w fun e w' => e = .returned (.tuple #[v, .int .i64 E]) ∧ w' = w) :
    Calls Tryz.prog 84 #[.pointer (some ⟨p, 0, none⟩), .int .i64 a] w fun e w' => e = .returned (.int .i64 E) ∧ w' = w := by
  have he2 : (E == 0) = false := by simpa using hE
  clear hE
  go_enter Tryz.func84, Tryz.ntmps84
  go_wp2_with fail
  refine c.mono ?_
  rintro e w1 ⟨rfl, rfl⟩
  go_wp2_with fail
  go_ret
  exact ⟨rfl, rfl⟩

set_option maxHeartbeats 1600000 in
set_option maxRecDepth 100000 in
theorem unpin_ok (h : Pd B w x) (hf : x.fv = x.hv) (hl : x.L.length ≤ 1000) (hO : x.O = []) (a : Int) (hB : B ≤ w.heap.size) {i b m : Nat} {f : Fm} (hi : x.L[i]? = some (b, f)) (hp : f.pins = m + 1) (hm : m ≤ 100000000) (c : Calls Tryz.prog 114 #[.pointer (some ⟨x.p, 0, none⟩), .int .i64 a] w fun e w' => e = .returned (.tuple #[.pointer (some ⟨b, 0, none⟩), .int .i64 0]) ∧ w' = w) :
    Calls Tryz.prog 84 #[.pointer (some ⟨x.p, 0, none⟩), .int .i64 a] w fun e w' => e = .returned (.int .i64 0) ∧ ∃ hv', PTo B w x { x with fv := hv', hv := hv', L := x.L.eraseIdx i ++ [(b, { f with pins := m })] } w' := by
  have t2 := h.setL hi hO (fr_set w b 2 (.int .i64 (m : Int))) (f' := { f with pins := m }) (fobj_set2 (h.inL hi).1 m)
  have hlt : i < x.L.length := (List.getElem?_eq_some_iff.1 hi).1
  have hi1 : (x.L.set i (b, { f with pins := m }))[i]? = some (b, { f with pins := m }) := by simp [hlt]
  have cU := use_any t2.pd hf (by simpa using hl) b { f with pins := m } (Or.inl ⟨⟨i, hi1⟩, hO⟩) (by simpa using hB)
  have eU : usedL (x.L.set i (b, { f with pins := m })) b { f with pins := m } = x.L.eraseIdx i ++ [(b, { f with pins := m })] := by
    unfold usedL
    rw [(filt_in hi1 t2.pd.ndL).1, List.eraseIdx_set_eq]
  rw [eU] at cU
  simp only at cU
  have T2 : Hid (PTo B w x _ _) := t2
  obtain ⟨f0, f1, f2, f3⟩ := fobj_cell (h.inL hi).1
  have e4 : ((f.pins : Nat) : Int) = (m : Int) + 1 := by omega
  rw [e4] at f2
  have z2 := fobj_free (h.inL hi).1 2
  have HO : Hid (x.O = []) := hO
  clear t2 hi1 eU h hf hi hO hp e4
  go_enter Tryz.func84, Tryz.ntmps84
  go_wp2_with fail
  refine c.mono ?_
  rintro e w1 ⟨rfl, hw1⟩
  subst hw1
  clear c
  go_wp2_with fail
  refine cU.mono ?_
  rintro e w3 ⟨rfl, hv3, t3⟩
  have T3 : Hid (PTo B _ _ _ w3) := t3
  clear t3 cU
  go_wp2_with fail
  go_ret
  refine ⟨rfl, hv3, ?_⟩
  rw [show ({ x with fv := hv3, hv := hv3, L := x.L.eraseIdx i ++ [(b, { f with pins := m })] } : PX) = { x with fv := hv3, hv := hv3, L := x.L.eraseIdx i ++ [(b, { f with pins := m })], O := [] } by rw [← HO.out]]
  exact T2.out.trans T3.out

/-- Set. -/
def setS (S : St) (a : Int) (s : ByteArray) : Int × St :=
  match idx S.l a with
  | none => (60, S)
  | some i => match S.l[i]? with
    | none => (60, S)
    | some f => if f.pins = 0 then (60, S) else if s.size ≠ 512 then (2, S) else (0, { S with l := S.l.eraseIdx i ++ [{ f with s := s, dirty := true }] })

/-- Unpin. -/
def unpinS (S : St) (a : Int) : Int × St :=
  match idx S.l a with
  | none => (60, S)
  | some i => match S.l[i]? with
    | none => (60, S)
    | some f => if f.pins = 0 then (60, S) else (0, { S with l := S.l.eraseIdx i ++ [{ f with pins := f.pins - 1 }] })

theorem set_any (h : Pd B w x) (k : Good bd x) (_hbd : bd ≤ 9000000) (hB : B ≤ w.heap.size) (a : Int) (s : ByteArray) :
    Calls Tryz.prog 147 #[.pointer (some ⟨x.p, 0, none⟩), .int .i64 a, .string s] w fun e w' => e = .returned (.int .i64 (setS x.st a s).1) ∧ ∃ x', PTo B w x x' w' ∧ x'.st = (setS x.st a s).2 ∧ Good (bd + 1) x' := by
  have hl := k.len
  have same : ∀ (e : Ending) (w' : World), (e = .returned (.int .i64 (60 : Int)) ∧ w' = w) → e = .returned (.int .i64 (60 : Int)) ∧ ∃ x', PTo B w x x' w' ∧ x'.st = x.st ∧ Good (bd + 1) x' := by
    rintro e w' ⟨rfl, rfl⟩
    exact ⟨rfl, x, PTo.refl h, rfl, k.mono (Nat.le_succ _)⟩
  cases hx : idx x.st.l a with
  | none =>
    have e : setS x.st a s = (60, x.st) := by unfold setS; rw [hx]
    rw [e]
    exact (set_no a s x.p _ 60 (by decide) (fp_none h k.fv (by omega) a (fun i b f hL => idx_none hx i f (frs_of hL)))).mono same
  | some i =>
    obtain ⟨f, hf, hfa, hbef⟩ := idx_some hx
    obtain ⟨b, hb⟩ := frs_get hf
    obtain ⟨p1, p2, p3⟩ := k.L hb
    have c := fp_at h k.fv (by omega) a hb hfa (fun j b' f' hj hL => hbef j f' hj (frs_of hL))
    by_cases hp : f.pins = 0
    · have e : setS x.st a s = (60, x.st) := by unfold setS; rw [hx]; simp only; rw [hf]; simp only; rw [if_pos hp]
      rw [if_pos hp] at c
      rw [e]
      exact (set_no a s x.p _ 60 (by decide) c).mono same
    · rw [if_neg hp] at c
      by_cases hs : s.size = 512
      · have e : setS x.st a s = (0, { x.st with l := x.st.l.eraseIdx i ++ [{ f with s := s, dirty := true }] }) := by unfold setS; rw [hx]; simp only; rw [hf]; simp only; rw [if_neg hp, if_neg (fun q => q hs)]
        rw [e]
        have hok := k.ok.used (g := { f with s := s, dirty := true }) hf rfl hs (Nat.le_succ _)
        refine (set_ok h k.fv (by omega) k.O a s hs hB hb c).mono ?_
        rintro e w' ⟨rfl, hv, t⟩
        have es : PX.st { x with fv := hv, hv := hv, L := x.L.eraseIdx i ++ [(b, { f with s := s, dirty := true })] } = { x.st with l := x.st.l.eraseIdx i ++ [{ f with s := s, dirty := true }] } := by
          simp only [PX.st, frs_append, frs_erase]
          rfl
        exact ⟨rfl, _, t, es, ⟨rfl, k.O, by rw [es]; exact hok⟩⟩
      · have e : setS x.st a s = (2, x.st) := by unfold setS; rw [hx]; simp only; rw [hf]; simp only; rw [if_neg hp, if_pos hs]
        rw [e]
        refine (set_long a s x.p b hs c).mono ?_
        rintro e w' ⟨rfl, rfl⟩
        exact ⟨rfl, x, PTo.refl h, rfl, k.mono (Nat.le_succ _)⟩

theorem unpin_any (h : Pd B w x) (k : Good bd x) (hbd : bd ≤ 9000000) (hB : B ≤ w.heap.size) (a : Int) :
    Calls Tryz.prog 84 #[.pointer (some ⟨x.p, 0, none⟩), .int .i64 a] w fun e w' => e = .returned (.int .i64 (unpinS x.st a).1) ∧ ∃ x', PTo B w x x' w' ∧ x'.st = (unpinS x.st a).2 ∧ Good (bd + 1) x' := by
  have hl := k.len
  have same : ∀ (e : Ending) (w' : World), (e = .returned (.int .i64 (60 : Int)) ∧ w' = w) → e = .returned (.int .i64 (60 : Int)) ∧ ∃ x', PTo B w x x' w' ∧ x'.st = x.st ∧ Good (bd + 1) x' := by
    rintro e w' ⟨rfl, rfl⟩
    exact ⟨rfl, x, PTo.refl h, rfl, k.mono (Nat.le_succ _)⟩
  cases hx : idx x.st.l a with
  | none =>
    have e : unpinS x.st a = (60, x.st) := by unfold unpinS; rw [hx]
    rw [e]
    exact (unpin_no a x.p _ 60 (by decide) (fp_none h k.fv (by omega) a (fun i b f hL => idx_none hx i f (frs_of hL)))).mono same
  | some i =>
    obtain ⟨f, hf, hfa, hbef⟩ := idx_some hx
    obtain ⟨b, hb⟩ := frs_get hf
    obtain ⟨p1, p2, p3⟩ := k.L hb
    have c := fp_at h k.fv (by omega) a hb hfa (fun j b' f' hj hL => hbef j f' hj (frs_of hL))
    by_cases hp : f.pins = 0
    · have e : unpinS x.st a = (60, x.st) := by unfold unpinS; rw [hx]; simp only; rw [hf]; simp only; rw [if_pos hp]
      rw [if_pos hp] at c
      rw [e]
      exact (unpin_no a x.p _ 60 (by decide) c).mono same
    · rw [if_neg hp] at c
      have e : unpinS x.st a = (0, { x.st with l := x.st.l.eraseIdx i ++ [{ f with pins := f.pins - 1 }] }) := by unfold unpinS; rw [hx]; simp only; rw [hf]; simp only; rw [if_neg hp]
      rw [e]
      have hok := k.ok.used (g := { f with pins := f.pins - 1 }) hf rfl p2 (by show f.pins - 1 ≤ f.pins + 1; omega)
      refine (unpin_ok h k.fv (by omega) k.O a hB hb (m := f.pins - 1) (by omega) (by omega) c).mono ?_
      rintro e w' ⟨rfl, hv, t⟩
      have es : PX.st { x with fv := hv, hv := hv, L := x.L.eraseIdx i ++ [(b, { f with pins := f.pins - 1 })] } = { x.st with l := x.st.l.eraseIdx i ++ [{ f with pins := f.pins - 1 }] } := by
        simp only [PX.st, frs_append, frs_erase]
        rfl
      exact ⟨rfl, _, t, es, ⟨rfl, k.O, by rw [es]; exact hok⟩⟩
end
end Go.Proofs.YtkjioabhdglkpaaGreat

/- Pin. -/
import Derived.Test.YtkjioabhdglkpaaGreatQPin
namespace Go.Proofs.YtkjioabhdglkpaaGreat
open Go.RowKit

section
variable {B : Nat} {w : World} {x : PX}

set_option maxHeartbeats 1600000 in
set_option maxRecDepth 100000 in
theorem pin_place (h : Pd B w x) (a : Int) (ha : ¬ (0 ≤ a ∧ a < (x.D.n : Int))) :
    Calls Tryz.prog 83 #[.pointer (some ⟨x.p, 0, none⟩), .int .i64 a] w fun e w' => e = .returned (.tuple #[.string ⟨#[]⟩, .int .i64 40]) ∧ w' = w := by
  obtain ⟨c0, _, _, _, _⟩ := h.cell
  have cS := sectors_any h.dev
  clear h
  by_cases h0 : a < 0
  · have h1 : decide (a < 0) = true := by simpa using h0
    clear ha
    go_enter Tryz.func83, Tryz.ntmps83
    go_wp2_with (go_at_call 111; refine cS.mono ?_; rintro e w1 ⟨rfl, rfl⟩)
    all_goals go_ret2
    all_goals exact ⟨rfl, rfl⟩
  · have h1 : decide (a < 0) = false := by simpa using h0
    have h2 : (x.D.n : Int) ≤ a := by omega
    have h3 : decide ((x.D.n : Int) ≤ a) = true := by simpa using h2
    clear ha h0
    go_enter Tryz.func83, Tryz.ntmps83
    go_wp2_with (go_at_call 111; refine cS.mono ?_; rintro e w1 ⟨rfl, rfl⟩)
    all_goals go_ret2
    all_goals exact ⟨rfl, rfl⟩

set_option maxHeartbeats 1600000 in
set_option maxRecDepth 100000 in
theorem pin_held (h : Pd B w x) (hf : x.fv = x.hv) (hl : x.L.length ≤ 1000) (hO : x.O = []) (a : Int) (ha : 0 ≤ a ∧ a < (x.D.n : Int)) (hB : B ≤ w.heap.size) {i b : Nat} {f : Fm} (hi : x.L[i]? = some (b, f)) (hfa : (f.pg : Int) = a) (hbef : ∀ (j b' : Nat) (f' : Fm), j < i → x.L[j]? = some (b', f') → (f'.pg : Int) ≠ a) (hs : f.s.size = 512) (hpin : f.pins ≤ 10000000) :
    Calls Tryz.prog 83 #[.pointer (some ⟨x.p, 0, none⟩), .int .i64 a] w fun e w' => e = .returned (.tuple #[.string f.s, .int .i64 0]) ∧ ∃ hv', PTo B w x { x with fv := hv', hv := hv', L := x.L.eraseIdx i ++ [(b, { f with pins := f.pins + 1 })] } w' := by
  obtain ⟨c0, _, _, _, _⟩ := h.cell
  have cS := sectors_any h.dev
  have cF := find_any h hf hl a (.pointer (some ⟨b, 0, none⟩)) (show Hid _ from Or.inr ⟨i, b, f, hi, hfa, rfl, hbef⟩)
  have t1 := h.setL hi hO (fr_set w b 2 (.int .i64 ((f.pins + 1 : Nat) : Int))) (fobj_set2 (h.inL hi).1 (f.pins + 1))
  have hlt : i < x.L.length := (List.getElem?_eq_some_iff.1 hi).1
  have hi1 : (x.L.set i (b, { f with pins := f.pins + 1 }))[i]? = some (b, { f with pins := f.pins + 1 }) := by simp [hlt]
  have cU := use_any t1.pd hf (by simpa using hl) b { f with pins := f.pins + 1 } (Or.inl ⟨⟨i, hi1⟩, hO⟩) (by simpa using hB)
  have eU : usedL (x.L.set i (b, { f with pins := f.pins + 1 })) b { f with pins := f.pins + 1 } = x.L.eraseIdx i ++ [(b, { f with pins := f.pins + 1 })] := by
    unfold usedL
    rw [(filt_in hi1 t1.pd.ndL).1, List.eraseIdx_set_eq]
  rw [eU] at cU
  simp only at cU
  have e4 : (((f.pins + 1 : Nat)) : Int) = (f.pins : Int) + 1 := by omega
  have E4 : Hid ((((f.pins + 1 : Nat)) : Int) = (f.pins : Int) + 1) := e4
  rw [e4] at cU
  have T1 : Hid (PTo B w x _ _) := t1
  have HO : Hid (x.O = []) := hO
  obtain ⟨f0, f1, f2, f3⟩ := fobj_cell (h.inL hi).1
  have z2 := fobj_free (h.inL hi).1 2
  have h1 : decide (a < 0) = false := by simp; omega
  have h3 : decide ((x.D.n : Int) ≤ a) = false := by simp; omega
  have hL : (x.L.eraseIdx i).length < (x.L.eraseIdx i ++ [(b, { f with pins := f.pins + 1 })]).length := by simp
  have hge : ∀ y : PX, y.L = x.L.eraseIdx i ++ [(b, { f with pins := f.pins + 1 })] → y.L[(x.L.eraseIdx i).length]? = some (b, { f with pins := f.pins + 1 }) := fun y e => by rw [e]; simp
  have HGE : Hid (∀ y : PX, y.L = x.L.eraseIdx i ++ [(b, { f with pins := f.pins + 1 })] → y.L[(x.L.eraseIdx i).length]? = some (b, { f with pins := f.pins + 1 })) := hge
  clear h hf hi hO hfa hbef t1 hi1 eU e4 ha hL hge
  go_enter Tryz.func83, Tryz.ntmps83
  go_wp2_with (first | (go_at_call 111; refine cS.mono ?_; rintro e w1 ⟨rfl, rfl⟩) | (go_at_call 48; refine cF.mono ?_; rintro e w1 ⟨rfl, rfl⟩))
  refine cU.mono ?_
  rintro e w2 ⟨rfl, hv2, t2⟩
  have hfo := (t2.pd.inL (HGE.out _ rfl)).1
  simp only at hfo
  obtain ⟨_, k1, _, _⟩ := fobj_cell hfo
  simp only at k1
  have T2 : Hid (PTo B _ _ _ w2) := t2
  clear t2 hfo cU cF cS
  have cC := clone_any f.s w2 (by omega)
  go_wp2_with fail
  refine cC.mono ?_
  rintro e w3 ⟨rfl, b3⟩
  clear cC
  go_wp2_with fail
  go_ret2
  refine ⟨rfl, hv2, ?_⟩
  have q1 := T1.out
  rw [E4.out] at q1
  rw [show ({ x with fv := hv2, hv := hv2, L := x.L.eraseIdx i ++ [(b, { f with pins := f.pins + 1 })] } : PX) = { x with fv := hv2, hv := hv2, L := x.L.eraseIdx i ++ [(b, { f with pins := f.pins + 1 })], O := [] } by rw [← HO.out]]
  exact (q1.trans T2.out).below b3

set_option maxHeartbeats 1600000 in
set_option maxRecDepth 100000 in
theorem pin_err (h : Pd B w x) (hf : x.fv = x.hv) (hl : x.L.length ≤ 1000) (a : Int) (ha : 0 ≤ a ∧ a < (x.D.n : Int)) (hno : ∀ (i b : Nat) (f : Fm), x.L[i]? = some (b, f) → (f.pg : Int) ≠ a) (E : Int) (hE : E ≠ 0) (K : PX → Prop)
    (c : Calls Tryz.prog 112 #[.pointer (some ⟨x.p, 0, none⟩), .int .i64 a] w fun e w' => e = .returned (.tuple #[.pointer none, .int .i64 E]) ∧ ∃ x1, PTo B w x x1 w' ∧ K x1) :
    Calls Tryz.prog 83 #[.pointer (some ⟨x.p, 0, none⟩), .int .i64 a] w fun e w' => e = .returned (.tuple #[.string ⟨#[]⟩, .int .i64 E]) ∧ ∃ x1, PTo B w x x1 w' ∧ K x1 := by
  obtain ⟨c0, _, _, _, _⟩ := h.cell
  have cS := sectors_any h.dev
  have cF := find_any h hf hl a (.pointer none) (show Hid _ from Or.inl ⟨hno, rfl⟩)
  have h1 : decide (a < 0) = false := by simp; omega
  have h3 : decide ((x.D.n : Int) ≤ a) = false := by simp; omega
  have he2 : (E == 0) = false := by simpa using hE
  clear h hf ha hno hE
  go_enter Tryz.func83, Tryz.ntmps83
  go_wp2_with (first | (go_at_call 111; refine cS.mono ?_; rintro e w1 ⟨rfl, rfl⟩) | (go_at_call 48; refine cF.mono ?_; rintro e w1 ⟨rfl, rfl⟩))
  refine c.mono ?_
  rintro e w2 ⟨rfl, hx⟩
  have HX : Hid (∃ x1, PTo B w1 x x1 w2 ∧ K x1) := hx
  clear c hx
  go_wp2_with fail
  go_ret2
  exact ⟨rfl, HX.out⟩

set_option maxHeartbeats 1600000 in
set_option maxRecDepth 100000 in
theorem pin_new (h : Pd B w x) (hf : x.fv = x.hv) (hl : x.L.length ≤ 1000) (a : Int) (ha : 0 ≤ a ∧ a < (x.D.n : Int)) (hB : B ≤ w.heap.size) (hno : ∀ (i b : Nat) (f : Fm), x.L[i]? = some (b, f) → (f.pg : Int) ≠ a) (b : Nat) (f : Fm) (hs : f.s.size = 512) (hp : f.pins = 0) (K : PX → Prop)
    (c : Calls Tryz.prog 112 #[.pointer (some ⟨x.p, 0, none⟩), .int .i64 a] w fun e w' => e = .returned (.tuple #[.pointer (some ⟨b, 0, none⟩), .int .i64 0]) ∧ ∃ x1, PTo B w x x1 w' ∧ K x1)
    (hK : ∀ x1, K x1 → x1.O = [(b, f)] ∧ x1.fv = x1.hv ∧ x1.L.length ≤ 1000) :
    Calls Tryz.prog 83 #[.pointer (some ⟨x.p, 0, none⟩), .int .i64 a] w fun e w' => e = .returned (.tuple #[.string f.s, .int .i64 0]) ∧ ∃ x1 hv', PTo B w x { x1 with fv := hv', hv := hv', L := x1.L ++ [(b, { f with pins := 1 })], O := [] } w' ∧ K x1 := by
  obtain ⟨c0, _, _, _, _⟩ := h.cell
  have cS := sectors_any h.dev
  have cF := find_any h hf hl a (.pointer none) (show Hid _ from Or.inl ⟨hno, rfl⟩)
  have h1 : decide (a < 0) = false := by simp; omega
  have h3 : decide ((x.D.n : Int) ≤ a) = false := by simp; omega
  clear h hf ha hno
  go_enter Tryz.func83, Tryz.ntmps83
  go_wp2_with (first | (go_at_call 111; refine cS.mono ?_; rintro e w1 ⟨rfl, rfl⟩) | (go_at_call 48; refine cF.mono ?_; rintro e w1 ⟨rfl, rfl⟩))
  refine c.mono ?_
  rintro e w2 ⟨rfl, x1, t1, k1⟩
  obtain ⟨hO, hf1, hl1⟩ := hK x1 k1
  have hbo : (b, f) ∈ x1.L ++ x1.O := by rw [hO]; simp
  have hfo := (t1.pd.fr _ hbo).1
  have hB1 : B ≤ w2.heap.size := Nat.le_trans hB t1.fr.size
  have t2 := t1.pd.setO hO (fr_set w2 b 2 (.int .i64 ((1 : Nat) : Int))) (f' := { f with pins := 1 }) (fobj_set2 hfo 1)
  have cU := use_any t2.pd hf1 hl1 b { f with pins := 1 } (Or.inr rfl) (by simpa using hB1)
  have hnb : b ∉ x1.L.map Prod.fst := by
    have := (List.nodup_append.1 t1.pd.nd).1
    rw [List.map_append, hO] at this
    intro hb
    exact (List.nodup_append.1 this).2.2 b hb b (by simp) rfl
  have eU : usedL x1.L b { f with pins := 1 } = x1.L ++ [(b, { f with pins := 1 })] := by
    unfold usedL
    rw [(filt_out hnb).1]
  simp only at cU
  rw [eU, t1.p] at cU
  have K1 : Hid (K x1) := k1
  have T1 : Hid (PTo B w1 x x1 w2) := t1
  have T2 : Hid (PTo B w2 x1 _ _) := t2
  have hge : Hid (∀ y : PX, y.L = x1.L ++ [(b, { f with pins := 1 })] → y.L[x1.L.length]? = some (b, { f with pins := 1 })) := fun y e => by rw [e]; simp
  obtain ⟨f0, f1, f2, f3⟩ := fobj_cell hfo
  rw [hp] at f2
  have z2 := fobj_free hfo 2
  have e1 : Hid (x1.p = x.p) := t1.p
  clear c hK k1 hO hf1 hl1 hbo hfo t1 t2 hnb eU cS cF
  go_wp2_with fail
  refine cU.mono ?_
  rintro e w3 ⟨rfl, hv3, t3⟩
  have hfo3 := (t3.pd.inL (hge.out _ rfl)).1
  simp only at hfo3
  obtain ⟨_, q1, _, _⟩ := fobj_cell hfo3
  simp only at q1
  have T3 : Hid (PTo B _ _ _ w3) := t3
  clear t3 hfo3 cU
  have cC := clone_any f.s w3 (by omega)
  go_wp2_with fail
  refine cC.mono ?_
  rintro e w4 ⟨rfl, b4⟩
  clear cC
  go_wp2_with fail
  go_ret2
  have q3 := T3.out
  rw [← e1.out] at q3
  exact ⟨rfl, x1, hv3, (T1.out.trans (T2.out.trans q3)).below b4, K1.out⟩
end
end Go.Proofs.YtkjioabhdglkpaaGreat

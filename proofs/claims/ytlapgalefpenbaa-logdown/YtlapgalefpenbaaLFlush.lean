/- Flush, Replace. -/
import Derived.Test.YtlapgalefpenbaaLStore
namespace Go.Proofs.Ytlapgalefpenbaa
open Go.RowKit

/-- An attempt at what touches the device alone. -/
theorem att_dev {B : Nat} {w : World} {lb g gs : Nat} {hv rv : Value} {D : DS} {S : LS} (l : Lg B w lb g gs hv rv D S) (k : Nat) (fi ca : Array Value) (hk : ∀ (av : Array Value) (w : World), (callFunc k av).run Try.prog w = .ok (.enter k av) w) (R : Option Int × DS)
    (c : ∀ V6, Below w.heap.size w V6 → Calls Try.prog k (fi ++ ca) V6 fun e w' => e = dexit R.1 ∧ DTo B V6 g gs hv R.2 w') :
    Calls Try.prog 35 #[.pointer (some ⟨lb, 0, none⟩), .func (.func k) fi ca] w fun e w' => e = .returned (.int .i64 (errN R.1)) ∧ LTo B w lb g gs hv rv R.2 (lafter R.1 S S) w' := by
  obtain ⟨V6, hV6⟩ : ∃ V6, V6 = (w.alloc (.cells #[.pointer (some ⟨lb, 0, none⟩)] 30)).alloc (.cells #[.int .i64 0] 27) := ⟨_, rfl⟩
  obtain ⟨H, hH⟩ : ∃ H, H = w.heap.size := ⟨_, rfl⟩
  have hb6 : Below w.heap.size w V6 := by rw [hV6]; exact below2 (below_alloc1 _ _) (below_alloc1 _ _)
  have hs6 : V6.heap.size = H + 2 := by rw [hV6, hH]; simp
  have q5 : V6.cell? ⟨H, 0, none⟩ = some (.pointer (some ⟨lb, 0, none⟩)) := by rw [hV6, hH]; go_simp
  have q6 : V6.cell? ⟨H + 1, 0, none⟩ = some (.int .i64 0) := by rw [hV6, hH]; go_simp
  have f6 : V6.frozen? ⟨H + 1, 0, none⟩ = false := by rw [hV6, hH]; go_simp
  have l6 := l.below hb6
  have nf : ∀ k, w.heap.size ≤ k → ¬ footL lb g gs hv rv k := fun k hk r => by have := l.lt k r; omega
  have nd : ∀ k, w.heap.size ≤ k → ¬ foot g gs hv k := fun k hk r => nf k hk (Or.inr (Or.inl r))
  have st := c V6 hb6
  have fin : ∀ w1, DTo B V6 g gs hv R.2 w1 → ∃ hv1, Lg B w1 lb g gs hv1 rv R.2 S ∧ Fr (footL lb g gs hv rv) w w1 ∧ (∀ k, footL lb g gs hv1 rv k → footL lb g gs hv rv k ∨ w.heap.size ≤ k) ∧ ¬ footL lb g gs hv1 rv (H + 1) ∧
      w1.cell? ⟨H, 0, none⟩ = some (.pointer (some ⟨lb, 0, none⟩)) ∧ w1.cell? ⟨H + 1, 0, none⟩ = some (.int .i64 0) ∧ w1.frozen? ⟨H + 1, 0, none⟩ = false := by
    intro w1 z
    obtain ⟨hv1, L1, f1, g1⟩ := l6.did' z
    have hh : H + 1 < V6.heap.size := by omega
    have hh2 : w.heap.size ≤ H + 1 := by omega
    refine ⟨hv1, L1, (Fr.of_below hb6).trans f1 (fun _ _ x => x), fun k r => ?_, not_footL g1 hh (nf _ hh2), z.cell q5 (nd _ (by omega)), z.cell q6 (nd _ (by omega)), ?_⟩
    · rcases g1 k r with x | x
      · exact Or.inl x
      · exact Or.inr (by have := hb6.size; omega)
    · rw [World.frozen?_of_block (w := V6) (a := ⟨H + 1, 0, none⟩) (z.block (by omega) (nd _ (by omega)))]
      exact f6
  cases hr1 : R.1 with
  | none =>
    rw [hr1, show dexit none = .returned (.tuple #[]) from rfl] at st
    refine (attempt_ok lb k fi ca w (fun w1 => DTo B V6 g gs hv R.2 w1) H hH hk ?_).mono ?_
    · rw [← hV6]
      refine st.mono ?_
      rintro e w1 ⟨rfl, z⟩
      obtain ⟨hv1, _, _, _, _, _, c1, hf⟩ := fin w1 z
      exact ⟨rfl, z, c1, hf⟩
    · rintro e w' ⟨rfl, w1, z, rfl⟩
      obtain ⟨hv1, L1, f1, g1, nn, _⟩ := fin w1 z
      exact ⟨rfl, hv1, rv, L1.aside nn 0 _, f1.set (Or.inr (by show w.heap.size ≤ H + 1; omega)) _, g1⟩
  | some x =>
    rw [hr1, show dexit (some x) = .panicked (pan x) from rfl] at st
    have hlt := l.lt lb (Or.inl rfl)
    refine (attempt_no lb k x fi ca w (fun w1 => DTo B V6 g gs hv R.2 w1) H hH (by omega) hk ?_).mono ?_
    · rw [← hV6]
      refine st.mono ?_
      rintro e w1 ⟨rfl, z⟩
      obtain ⟨hv1, L1, _, _, _, c0, c1, hf⟩ := fin w1 z
      exact ⟨rfl, z, c0, c1, hf, ⟨_, (lcell L1.log).2.2.2.2.2.2⟩, L1.free 6⟩
    · rintro e w' ⟨rfl, w1, z, rfl⟩
      obtain ⟨hv1, L1, f1, g1, nn, _⟩ := fin w1 z
      exact ⟨rfl, hv1, rv, (L1.aside nn 0 _).unfit, (f1.set (Or.inr (by show w.heap.size ≤ H + 1; omega)) _).set (Or.inl (Or.inl rfl)) _, g1⟩

section
variable {B b : Nat} {w : World} {lb g gs : Nat} {hv rv : Value} {D : DS} {S : LS}

set_option maxHeartbeats 400000 in
theorem flush_nil (w : World) : Calls Try.prog 17 #[.pointer none] w fun e w' => e = .returned (.int .i64 1) ∧ w' = w := by
  go_enter Try.func17, Try.ntmps17
  go_wp2_with fail
  refine (fit_nil w).mono ?_
  rintro e w1 ⟨rfl, h1⟩
  rw [h1]
  go_wp2_with fail
  go_ret
  exact ⟨rfl, rfl⟩

set_option maxHeartbeats 400000 in
theorem flush_unfit (l : Lg B w lb g gs hv rv D S) (hu : S.unfit = true) : Calls Try.prog 17 #[.pointer (some ⟨lb, 0, none⟩)] w fun e w' => e = .returned (.int .i64 41) ∧ w' = w := by
  have c6 := (lcell l.log).2.2.2.2.2.2
  have cF := fit_any S.unfit c6
  rw [hu] at cF
  go_enter Try.func17, Try.ntmps17
  go_wp2_with fail
  refine cF.mono ?_
  rintro e w1 ⟨rfl, h1⟩
  rw [h1]
  go_wp2_with fail
  go_ret
  exact ⟨rfl, rfl⟩

set_option maxHeartbeats 400000 in
theorem lflush_call (l : Lg B w lb g gs hv rv D S) (hi : Inv b D) (hb : b ≤ 100000) (hu : S.unfit = false) (R : Option Int × DS) (hR : R = dstep D none) :
    Calls Try.prog 17 #[.pointer (some ⟨lb, 0, none⟩)] w fun e w' => e = .returned (.int .i64 (errN R.1)) ∧ LTo B w lb g gs hv rv R.2 (lafter R.1 S S) w' := by
  have c6 := (lcell l.log).2.2.2.2.2.2
  have cF := fit_any S.unfit c6
  have hmf : ∀ (fn : Fn) (first cap : Array Value) (w : World), (Instr.makeFunc fn first cap).run Try.prog w = .ok (.func fn first cap) w := fun _ _ _ _ => rfl
  rw [hu] at cF
  have cA := att_dev l 41 #[.pointer (some ⟨lb, 0, none⟩)] #[] enters41 R (fun V6 h6 => by
    rw [hR]
    exact lflush_any (lcell (l.below h6).log).1 (l.below h6).dev hi hb)
  clear hR
  go_enter Try.func17, Try.ntmps17
  go_wp2_with fail
  refine cF.mono ?_
  rintro e w1 ⟨rfl, h1⟩
  rw [h1]
  go_wp2_with fail
  refine cA.mono ?_
  rintro e w2 ⟨rfl, z2⟩
  go_wp2_with fail
  go_ret
  exact ⟨rfl, z2⟩

/-- Another list of records, in a row of its own. -/
theorem Lg.setRow (h : Lg B w lb g gs hv rv D S) (rv' : Value) (L : List ByteArray) (hrow : Row w B rv' L) (hrn : ∀ k, rv'.ownBlock = some k → k ≠ lb ∧ ¬ foot g gs hv k) : Lg B (w.setCell ⟨lb, 5, none⟩ rv') lb g gs hv rv' D { S with recs := L } := by
  have hb : ∀ k, k ≠ lb → (w.setCell ⟨lb, 5, none⟩ rv').heap[k]? = w.heap[k]? := fun k hk => Below.heap_setCell _ _ _ _ hk
  refine ⟨h.dev.kept (fun k r => hb k (by rintro rfl; exact h.ln r)), heap_setCell_same w lb 5 _ _ rv' h.log, hrow.kept (fun k r => hb k (hrn k r).1), h.lB, h.ln, hrn⟩

/-- The log behind Replace. -/
def rafter (r : Option Int) (S : LS) (slot area used : Nat) (t : ByteArray) : LS := match r with
  | none => { S with slot := slot, area := area, used := used, base := t, recs := [] }
  | some _ => { S with unfit := true }

set_option maxHeartbeats 400000 in
theorem replace_nil (t : ByteArray) (w : World) : Calls Try.prog 18 #[.pointer none, .string t] w fun e w' => e = .returned (.int .i64 1) ∧ w' = w := by
  go_enter Try.func18, Try.ntmps18
  go_wp2_with fail
  refine (fit_nil w).mono ?_
  rintro e w1 ⟨rfl, h1⟩
  rw [h1]
  go_wp2_with fail
  go_ret
  exact ⟨rfl, rfl⟩

set_option maxHeartbeats 400000 in
theorem replace_unfit (l : Lg B w lb g gs hv rv D S) (hu : S.unfit = true) (t : ByteArray) : Calls Try.prog 18 #[.pointer (some ⟨lb, 0, none⟩), .string t] w fun e w' => e = .returned (.int .i64 41) ∧ w' = w := by
  have c6 := (lcell l.log).2.2.2.2.2.2
  have cF := fit_any S.unfit c6
  rw [hu] at cF
  go_enter Try.func18, Try.ntmps18
  go_wp2_with fail
  refine cF.mono ?_
  rintro e w1 ⟨rfl, h1⟩
  rw [h1]
  go_wp2_with fail
  go_ret
  exact ⟨rfl, rfl⟩

set_option maxHeartbeats 800000 in
set_option maxRecDepth 100000 in
theorem replace_full (l : Lg B w lb g gs hv rv D S) (hu : S.unfit = false) (h8 : 8 ≤ D.n) (hn : D.n ≤ 8192) (A : Nat) (hA : A = areaN D.n) (t : ByteArray) (ht : t.size ≤ 1000000000) (hr : A < secs t) :
    Calls Try.prog 18 #[.pointer (some ⟨lb, 0, none⟩), .string t] w fun e w' => e = .returned (.int .i64 50) ∧ Below w.heap.size w w' := by
  obtain ⟨c0, _, _, _, _, _, c6⟩ := lcell l.log
  have cF := fit_any S.unfit c6
  rw [hu] at cF
  have cS := fun w => sectorsOf_any t ht w
  have cA := fun w d => areaOf_any (B := B) (w := w) (g := g) (gs := gs) (hv := hv) (D := D) d h8 hn A hA
  have dD : Dev B w.drew g gs hv D := l.dev.kept (fun _ _ => rfl)
  obtain ⟨m, hm⟩ : ∃ m, m = secs t := ⟨_, rfl⟩
  rw [← hm] at cS hr
  have d1 : decide ((A : Int) < (m : Int)) = true := by simp; omega
  clear hA hm
  go_enter Try.func18, Try.ntmps18
  go_wp2_with fail
  refine cF.mono ?_
  rintro e w1 ⟨rfl, h1⟩
  rw [h1]
  go_wp2_with fail
  go_region_held3 (fun W => W.cell? ⟨lb, 0, none⟩ = some (.pointer (some ⟨g, 0, none⟩)))
    (first | exact c0 | go_keep)
    (first
      | (go_at_call 34; refine (cA _ dD).mono ?_; rintro e w3 ⟨rfl, h3⟩; rw [h3])
      | (go_at_call 33; refine (cS _).mono ?_; rintro e w2 ⟨rfl, h2⟩; rw [h2]))
  all_goals go_wp2_with fail
  all_goals go_ret
  all_goals exact ⟨rfl, below_drew w⟩

set_option maxHeartbeats 1600000 in
set_option maxRecDepth 100000 in
theorem replace_any (l : Lg B w lb g gs hv rv D S) (hi : Inv b D) (hB : B ≤ w.heap.size) (hu : S.unfit = false) (h8 : 8 ≤ D.n) (hn : D.n ≤ 8192) (A : Nat) (hA : A = areaN D.n) (t : ByteArray) (hr : secs t ≤ A) (hb : b + secs t + 4 ≤ 100000) (slot area used : Nat) (hs : slot = S.slot % 2 + 1) (ha : S.area ≤ 1) (ha2 : area = 1 - S.area) (hus : used = secs t) (R : Option Int × DS) (hR : R = drun D (script A slot area 0 t)) :
    Calls Try.prog 18 #[.pointer (some ⟨lb, 0, none⟩), .string t] w fun e w' => e = .returned (.int .i64 (errN R.1)) ∧ LTo B w lb g gs hv rv R.2 (rafter R.1 S slot area used t) w' := by
  obtain ⟨c0, _, c2, _, _, _, c6⟩ := lcell l.log
  have hA4 : 2 * A + 4 ≤ D.n ∧ A ≤ 4096 := by rw [hA]; unfold areaN; omega
  have ht : t.size ≤ 1000000000 := by unfold secs at hr; omega
  have cF := fit_any S.unfit c6
  rw [hu] at cF
  have cS := fun w => sectorsOf_any t ht w
  have cA := fun w d => areaOf_any (B := B) (w := w) (g := g) (gs := gs) (hv := hv) (D := D) d h8 hn A hA
  have dD : Dev B w.drew g gs hv D := l.dev.kept (fun _ _ => rfl)
  have lD : Lg B w.drew lb g gs hv rv D S := l.kept (fun _ _ => rfl)
  have cSt := store_any lD hi hB h8 hn A hA area 0 used slot hs (by omega) t (by omega) (by omega) hb
  rw [← hR] at cSt
  obtain ⟨m, hm⟩ : ∃ m, m = secs t := ⟨_, rfl⟩
  rw [← hm] at cS hr
  have d1 : decide ((A : Int) < (m : Int)) = false := by simp; omega
  have w1 : (1 : Int) - (S.area : Int) = (area : Int) := by omega
  have hbd : area ≤ 1 := by omega
  have HR : Hid (R = drun D (script A slot area 0 t)) := hR
  clear hA hm hR hus ha2
  go_enter Try.func18, Try.ntmps18
  go_wp2_with fail
  refine cF.mono ?_
  rintro e w1 ⟨rfl, h1⟩
  rw [h1]
  go_wp2_with fail
  go_region_held3 (fun W => W.cell? ⟨lb, 0, none⟩ = some (.pointer (some ⟨g, 0, none⟩)))
    (first | exact c0 | go_keep)
    (first
      | (go_at_call 34; refine (cA _ dD).mono ?_; rintro e w3 ⟨rfl, h3⟩; rw [h3])
      | (go_at_call 33; refine (cS _).mono ?_; rintro e w2 ⟨rfl, h2⟩; rw [h2]))
  all_goals go_wp2_with fail
  all_goals refine cSt.mono ?_
  all_goals rintro e w5 ⟨rfl, z5⟩
  all_goals cases hr1 : R.1 with
    | none =>
      have HR1 : Hid (R.1 = none) := hr1
      rw [hr1] at z5
      rw [show errN none = 0 from rfl]
      clear hr1
      obtain ⟨hv5, rv5, l5, f5, g5⟩ := z5
      go_wp2_with fail
      refine (clone_any t _ (by omega)).mono ?_
      rintro e w6 ⟨rfl, b6⟩
      have l6 := l5.below b6
      have f6 := f5.trans (Fr.of_below (F := footL lb g gs hv rv) b6) (fun _ _ x => x)
      obtain ⟨_, _, _, _, x4, x5, _⟩ := lcell l6.log
      have y4 := l6.free 4
      have y5 := l6.free 5
      have l7 := l6.put 4 (.string t) { S with slot := slot, area := area, used := used, base := t } rfl rfl
      have l8 := l7.setRow (.slice none 0 0) [] (Or.inl ⟨rfl, rfl⟩) (by intro k h; cases h)
      have f8 := (f6.set (p := ⟨lb, 4, none⟩) (Or.inl (Or.inl rfl)) (.string t)).set (p := ⟨lb, 5, none⟩) (Or.inl (Or.inl rfl)) (.slice none 0 0)
      go_wp2_with fail
      go_ret
      refine ⟨by rw [HR1.out]; rfl, ?_⟩
      rw [HR1.out]
      refine ⟨hv5, .slice none 0 0, l8, (Fr.of_below (below_drew w)).trans f8 (fun _ _ x => x), ?_⟩
      rintro k (r | r | r)
      · exact Or.inl (Or.inl r)
      · exact g5 k (Or.inr (Or.inl r))
      · cases r
    | some x =>
      have HR1 : Hid (R.1 = some x) := hr1
      have hx : ((x == 0) = false) := by
        have := drun_err D _ x (by rw [← HR.out]; exact hr1)
        rcases this with rfl | rfl <;> rfl
      rw [show errN (some x) = x from rfl]
      clear hr1
      go_wp2_with fail
      go_ret
      refine ⟨by rw [HR1.out]; rfl, ?_⟩
      rw [HR1.out] at z5 ⊢
      exact z5.pre (below_drew w)
end

end Go.Proofs.Ytlapgalefpenbaa

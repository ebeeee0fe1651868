/- store. -/
import Derived.Test.YtlapgalefpenbaaLMem
import Derived.Test.YtlapgalefpenbaaLStore1
import Derived.Test.YtlapgalefpenbaaLAttempt
namespace Go.Proofs.Ytlapgalefpenbaa
open Go.RowKit

theorem enters54 (av : Array Value) (w : World) : (callFunc 54 av).run Try.prog w = .ok (.enter 54 av) w := by
  go_simp

theorem cell_other {w : World} {k j o p : Nat} {v : Value} (h : k ≠ j) : (w.setCell ⟨j, p, none⟩ v).cell? ⟨k, o, none⟩ = w.cell? ⟨k, o, none⟩ :=
  World.cell?_of_block (a := ⟨k, o, none⟩) (Below.heap_setCell _ _ _ _ h)

/-- The number of an error. -/
def errN : Option Int → Int
  | none => 0
  | some e => e
/-- The log behind a call that may be told an error. -/
def lafter (r : Option Int) (S S1 : LS) : LS := match r with
  | none => S1
  | some _ => { S with unfit := true }

/-- A log behind an attempt, what stands beside it as it was. -/
theorem store_att {B b : Nat} {w V : World} {lb g gs H : Nat} {hv rv : Value} {D : DS} {S : LS} (l : Lg B w lb g gs hv rv D S) (hi : Inv b D) (hB : B ≤ w.heap.size) (h8 : 8 ≤ D.n) (hn : D.n ≤ 8192)
    (A : Nat) (hA : A = areaN D.n) (area frm used slot : Nat) (hsl : slot = 1 ∨ slot = 2) (ha : area ≤ 1) (t : ByteArray) (hu : used = frm + secs t) (hr : used ≤ A) (hb : b + secs t + 4 ≤ 100000) (R : Option Int × DS) (hR : R = drun D (script A slot area frm t))
    (hbV : Below w.heap.size w V) (hH : H = w.heap.size) (hV : V.heap.size = H + 5) (k0 : V.cell? ⟨H, 0, none⟩ = some (.pointer (some ⟨lb, 0, none⟩))) (k1 : V.cell? ⟨H + 1, 0, none⟩ = some (.int .i64 (area : Int))) (k2 : V.cell? ⟨H + 2, 0, none⟩ = some (.int .i64 (frm : Int))) (k3 : V.cell? ⟨H + 3, 0, none⟩ = some (.string t))
    (n0 : V.cell? ⟨H + 4, 0, none⟩ = some (.int .i64 (slot : Int))) (n1 : V.cell? ⟨H + 4, 1, none⟩ = some (.int .i64 (area : Int))) (n2 : V.cell? ⟨H + 4, 2, none⟩ = some (.int .i64 (used : Int))) :
    Calls Try.prog 35 #[.pointer (some ⟨lb, 0, none⟩), .func (.func 54) #[] #[.pointer (some ⟨H, 0, none⟩), .pointer (some ⟨H + 1, 0, none⟩), .pointer (some ⟨H + 2, 0, none⟩), .pointer (some ⟨H + 3, 0, none⟩), .pointer (some ⟨H + 4, 0, none⟩)]] V fun e w' =>
      e = .returned (.int .i64 (errN R.1)) ∧ ∃ hv1, Lg B w' lb g gs hv1 rv R.2 (lafter R.1 S S) ∧ Fr (footL lb g gs hv rv) w w' ∧ (∀ k, footL lb g gs hv1 rv k → footL lb g gs hv rv k ∨ w.heap.size ≤ k) ∧
        w'.cell? ⟨H, 0, none⟩ = some (.pointer (some ⟨lb, 0, none⟩)) ∧ w'.cell? ⟨H + 4, 0, none⟩ = some (.int .i64 (slot : Int)) ∧ w'.cell? ⟨H + 4, 1, none⟩ = some (.int .i64 (area : Int)) ∧ w'.cell? ⟨H + 4, 2, none⟩ = some (.int .i64 (used : Int)) := by
  obtain ⟨V6, hV6⟩ : ∃ V6, V6 = (V.alloc (.cells #[.pointer (some ⟨lb, 0, none⟩)] 30)).alloc (.cells #[.int .i64 0] 27) := ⟨_, rfl⟩
  have hb6 : Below V.heap.size V V6 := by rw [hV6]; exact below2 (below_alloc1 _ _) (below_alloc1 _ _)
  have hs6 : V6.heap.size = H + 7 := by rw [hV6]; simp; omega
  have q5 : V6.cell? ⟨H + 5, 0, none⟩ = some (.pointer (some ⟨lb, 0, none⟩)) := by rw [hV6, ← hV]; go_simp
  have q6 : V6.cell? ⟨H + 6, 0, none⟩ = some (.int .i64 0) := by rw [hV6, show H + 6 = V.heap.size + 1 by omega]; go_simp
  have f6 : V6.frozen? ⟨H + 6, 0, none⟩ = false := by rw [hV6, show H + 6 = V.heap.size + 1 by omega]; go_simp
  have hw6 := below2 hbV hb6
  have l6 := l.below hw6
  have nf : ∀ k, w.heap.size ≤ k → ¬ footL lb g gs hv rv k := fun k hk r => by have := l.lt k r; omega
  have nd : ∀ k, w.heap.size ≤ k → ¬ foot g gs hv k := fun k hk r => nf k hk (Or.inr (Or.inl r))
  have hcell : ∀ (k o : Nat) (v : Value), k < H + 5 → V.cell? ⟨k, o, none⟩ = some v → V6.cell? ⟨k, o, none⟩ = some v := fun k o v hk h => (hb6.cell (p := ⟨k, o, none⟩) (by show k < V.heap.size; omega)).trans h
  have st := store1_any H (H + 1) (H + 2) (H + 3) (H + 4) (lcell l6.log).1 l6.dev hi (Nat.le_trans hB hw6.size) l6.ln h8 hn A hA slot area frm used hsl ha t hu hr hb
    (hcell _ _ _ (by omega) k0) (hcell _ _ _ (by omega) k1) (hcell _ _ _ (by omega) k2) (hcell _ _ _ (by omega) k3) (hcell _ _ _ (by omega) n0) (hcell _ _ _ (by omega) n1) (hcell _ _ _ (by omega) n2)
    (nd _ (by omega)) (nd _ (by omega)) (nd _ (by omega)) (nd _ (by omega)) (nd _ (by omega))
  rw [← hR] at st
  have fin : ∀ w1, DTo B V6 g gs hv R.2 w1 → ∃ hv1, Lg B w1 lb g gs hv1 rv R.2 S ∧ Fr (footL lb g gs hv rv) w w1 ∧ (∀ k, footL lb g gs hv1 rv k → footL lb g gs hv rv k ∨ w.heap.size ≤ k) ∧ ¬ footL lb g gs hv1 rv (H + 6) ∧
      (∀ (k o : Nat) (v : Value), H ≤ k → k < H + 7 → V6.cell? ⟨k, o, none⟩ = some v → w1.cell? ⟨k, o, none⟩ = some v) ∧ w1.frozen? ⟨H + 6, 0, none⟩ = false := by
    intro w1 z
    obtain ⟨hv1, L1, f1, g1⟩ := l6.did' z
    have hh : H + 6 < V6.heap.size := by omega
    have hh2 : w.heap.size ≤ H + 6 := by omega
    refine ⟨hv1, L1, (Fr.of_below hw6).trans f1 (fun _ _ x => x), fun k r => ?_, not_footL g1 hh (nf _ hh2), fun k o v h1 h2 h => z.cell h (nd k (by omega)), ?_⟩
    · rcases g1 k r with x | x
      · exact Or.inl x
      · exact Or.inr (by have := hw6.size; omega)
    · rw [World.frozen?_of_block (w := V6) (a := ⟨H + 6, 0, none⟩) (z.block (by omega) (nd _ (by omega)))]
      exact f6
  cases hr1 : R.1 with
  | none =>
    rw [hr1, show dexit none = .returned (.tuple #[]) from rfl] at st
    refine (attempt_ok lb 54 #[] _ V (fun w1 => DTo B V6 g gs hv R.2 w1) (H + 5) hV.symm enters54 ?_).mono ?_
    · rw [← hV6]
      refine (show Calls Try.prog _ _ _ _ from st).mono ?_
      rintro e w1 ⟨rfl, z⟩
      obtain ⟨hv1, _, _, _, _, hc, hf⟩ := fin w1 z
      exact ⟨rfl, z, hc (H + 6) 0 _ (by omega) (by omega) q6, hf⟩
    · rintro e w' ⟨rfl, w1, z, rfl⟩
      obtain ⟨hv1, L1, f1, g1, nn, hc, hf⟩ := fin w1 z
      have ho : ∀ (k o : Nat) (v : Value), H ≤ k → k < H + 5 → V.cell? ⟨k, o, none⟩ = some v → (w1.setCell ⟨H + 5 + 1, 0, none⟩ (.int .i64 0)).cell? ⟨k, o, none⟩ = some v := fun k o v h1 h2 h => by
        rw [cell_other (by omega)]
        exact hc k o v h1 (by omega) (hcell k o v h2 h)
      exact ⟨rfl, hv1, L1.aside nn 0 _, f1.set (Or.inr (by show w.heap.size ≤ H + 5 + 1; omega)) _, g1, ho _ _ _ (by omega) (by omega) k0, ho _ _ _ (by omega) (by omega) n0, ho _ _ _ (by omega) (by omega) n1, ho _ _ _ (by omega) (by omega) n2⟩
  | some x =>
    rw [hr1, show dexit (some x) = .panicked (pan x) from rfl] at st
    have hlt := l.lt lb (Or.inl rfl)
    refine (attempt_no lb 54 x #[] _ V (fun w1 => DTo B V6 g gs hv R.2 w1) (H + 5) hV.symm (by omega) enters54 ?_).mono ?_
    · rw [← hV6]
      refine (show Calls Try.prog _ _ _ _ from st).mono ?_
      rintro e w1 ⟨rfl, z⟩
      obtain ⟨hv1, L1, _, _, _, hc, hf⟩ := fin w1 z
      exact ⟨rfl, z, hc (H + 5) 0 _ (by omega) (by omega) q5, hc (H + 6) 0 _ (by omega) (by omega) q6, hf, ⟨_, (lcell L1.log).2.2.2.2.2.2⟩, L1.free 6⟩
    · rintro e w' ⟨rfl, w1, z, rfl⟩
      obtain ⟨hv1, L1, f1, g1, nn, hc, hf⟩ := fin w1 z
      have ho : ∀ (k o : Nat) (v : Value), H ≤ k → k < H + 5 → V.cell? ⟨k, o, none⟩ = some v → ((w1.setCell ⟨H + 5 + 1, 0, none⟩ (.int .i64 x)).setCell ⟨lb, 6, none⟩ (.bool true)).cell? ⟨k, o, none⟩ = some v := fun k o v h1 h2 h => by
        rw [cell_other (by omega), cell_other (by omega)]
        exact hc k o v h1 (by omega) (hcell k o v h2 h)
      exact ⟨rfl, hv1, (L1.aside nn 0 _).unfit, (f1.set (Or.inr (by show w.heap.size ≤ H + 5 + 1; omega)) _).set (Or.inl (Or.inl rfl)) _, g1, ho _ _ _ (by omega) (by omega) k0, ho _ _ _ (by omega) (by omega) n0, ho _ _ _ (by omega) (by omega) n1, ho _ _ _ (by omega) (by omega) n2⟩

set_option maxHeartbeats 1600000 in
set_option maxRecDepth 100000 in
theorem store_any {B b : Nat} {w : World} {lb g gs : Nat} {hv rv : Value} {D : DS} {S : LS} (l : Lg B w lb g gs hv rv D S) (hi : Inv b D) (hB : B ≤ w.heap.size) (h8 : 8 ≤ D.n) (hn : D.n ≤ 8192)
    (A : Nat) (hA : A = areaN D.n) (area frm used slot : Nat) (hs : slot = S.slot % 2 + 1) (ha : area ≤ 1) (t : ByteArray) (hu : used = frm + secs t) (hr : used ≤ A) (hb : b + secs t + 4 ≤ 100000) :
    Calls Try.prog 39 #[.pointer (some ⟨lb, 0, none⟩), .int .i64 (area : Int), .int .i64 (frm : Int), .string t] w fun e w' =>
      e = .returned (.int .i64 (errN (drun D (script A slot area frm t)).1)) ∧ LTo B w lb g gs hv rv (drun D (script A slot area frm t)).2 (lafter (drun D (script A slot area frm t)).1 S { S with slot := slot, area := area, used := used }) w' := by
  have hA4 : 2 * A + 4 ≤ D.n ∧ A ≤ 4096 := by rw [hA]; unfold areaN; omega
  have hts : t.size ≤ 1000000000 := by unfold secs at hu; omega
  have cS := fun w => sectorsOf_any t hts w
  obtain ⟨c0, c1, c2, c3, c4, c5, c6⟩ := lcell l.log
  have hlt := l.lt lb (Or.inl rfl)
  obtain ⟨q, hq⟩ : ∃ q, q = S.slot % 2 := ⟨_, rfl⟩
  have hrem : (S.slot : Int).tmod 2 = (q : Int) := by rw [hq, Int.tmod_eq_emod_of_nonneg (by omega)]; omega
  have hq2 : q < 2 := by omega
  have hs2 : slot = q + 1 := by omega
  obtain ⟨m, hm⟩ : ∃ m, m = secs t := ⟨_, rfl⟩
  rw [← hm] at cS
  have w1 : IntKind.i64.wrap ((q : Int) + 1) = (slot : Int) := by
    rw [show (q : Int) + 1 = (slot : Int) by omega]
    exact wrap_nat _ (by omega)
  have w2 : IntKind.i64.wrap ((frm : Int) + (m : Int)) = (used : Int) := by
    rw [show (frm : Int) + (m : Int) = (used : Int) by omega]
    exact wrap_nat _ (by omega)
  obtain ⟨R, hR⟩ : ∃ R, R = drun D (script A slot area frm t) := ⟨_, rfl⟩
  rw [← hR]
  obtain ⟨H, hH⟩ : ∃ H, H = w.heap.size := ⟨_, rfl⟩
  obtain ⟨W, hW⟩ : ∃ W, W = ((((w.alloc (.cells #[.pointer (some ⟨lb, 0, none⟩)] 30)).alloc (.cells #[.int .i64 (area : Int)] 3)).alloc (.cells #[.int .i64 (frm : Int)] 3)).alloc (.cells #[.string t] 9)) := ⟨_, rfl⟩
  have hbW : Below w.heap.size w W := by rw [hW]; exact below2 (below2 (below2 (below_alloc1 _ _) (below_alloc1 _ _)) (below_alloc1 _ _)) (below_alloc1 _ _)
  have hsz : W.heap.size = H + 4 := by rw [hW, hH]; simp
  have k0 : W.cell? ⟨H, 0, none⟩ = some (.pointer (some ⟨lb, 0, none⟩)) := by rw [hW, hH]; go_simp
  have k1 : W.cell? ⟨H + 1, 0, none⟩ = some (.int .i64 (area : Int)) := by rw [hW, hH]; go_simp
  have k2 : W.cell? ⟨H + 2, 0, none⟩ = some (.int .i64 (frm : Int)) := by rw [hW, hH]; go_simp
  have k3 : W.cell? ⟨H + 3, 0, none⟩ = some (.string t) := by rw [hW, hH]; go_simp
  have kl1 := (hbW.cell (p := ⟨lb, 1, none⟩) hlt).trans c1
  have hlt1 := l.lt
  have HA : Hid (A = areaN D.n) := hA
  have HR : Hid (R = drun D (script A slot area frm t)) := hR
  have HM : Hid (m = secs t ∧ used = frm + secs t ∧ b + secs t + 4 ≤ 100000 ∧ slot = q + 1) := ⟨hm, hu, hb, hs2⟩
  clear hA hR hm hu hb hs hs2 hq c0 c1 c2 c3 c4 c5 c6
  go_enter Try.func39, Try.ntmps39
  go_wp2_with fail
  rw [← hH, ← hW]
  have HH : Hid (H = w.heap.size) := hH
  clear hW hH
  have cAt := store_att (V := (W.alloc (.cells #[.int .i64 (slot : Int), .int .i64 (area : Int), .int .i64 (used : Int)] 79)).drew) (H := H) l hi hB h8 hn A HA.out area frm used slot (by have := HM.out.2.2.2; omega) ha t HM.out.2.1 hr HM.out.2.2.1 R HR.out (below2 hbW (below2 (below_alloc1 _ _) (below_drew _))) HH.out (by simp [hsz])
    (by go_simp) (by go_simp) (by go_simp) (by go_simp) (by rw [← hsz]; go_simp) (by rw [← hsz]; go_simp) (by rw [← hsz]; go_simp)
  have hDW := below_drew W
  go_region_held3 (fun V => V.cell? ⟨H, 0, none⟩ = some (.pointer (some ⟨lb, 0, none⟩)) ∧ V.cell? ⟨H + 1, 0, none⟩ = some (.int .i64 (area : Int)) ∧ V.cell? ⟨H + 1 + 1, 0, none⟩ = some (.int .i64 (frm : Int)) ∧ V.cell? ⟨H + 1 + 1 + 1, 0, none⟩ = some (.string t) ∧ V.cell? ⟨lb, 1, none⟩ = some (.int .i64 (S.slot : Int)))
    (first | exact ⟨k0, k1, k2, k3, kl1⟩ | go_keep)
    (first | (go_at_call 33; refine (cS _).mono ?_; rintro e w5 ⟨rfl, h5⟩; rw [h5]))
  all_goals go_wp2_with fail
  all_goals refine cAt.mono ?_
  all_goals rintro e w5 ⟨rfl, hv5, l5, f5, g5, p5, p0, p1, p2⟩
  all_goals obtain ⟨_, d1, d2, d3, _⟩ := lcell l5.log
  all_goals have e1 := l5.free 1
  all_goals have e2 := l5.free 2
  all_goals have e3 := l5.free 3
  all_goals cases hr1 : R.1 with
    | none =>
      have HR1 : Hid (R.1 = none) := hr1
      rw [show errN none = 0 from rfl]
      clear hr1
      have l5' : Lg B w5 lb g gs hv5 rv R.2 S := by
        have := l5
        rw [HR1.out] at this
        exact this
      have l6 := l5'.put 1 (.int .i64 (slot : Int)) { S with slot := slot } rfl rfl
      have l7 := l6.put 2 (.int .i64 (area : Int)) { S with slot := slot, area := area } rfl rfl
      have l8 := l7.put 3 (.int .i64 (used : Int)) { S with slot := slot, area := area, used := used } rfl rfl
      have fr8 := ((f5.set (p := ⟨lb, 1, none⟩) (Or.inl (Or.inl rfl)) (.int .i64 (slot : Int))).set (p := ⟨lb, 2, none⟩) (Or.inl (Or.inl rfl)) (.int .i64 (area : Int))).set (p := ⟨lb, 3, none⟩) (Or.inl (Or.inl rfl)) (.int .i64 (used : Int))
      go_wp2_with fail
      go_ret
      refine ⟨by rw [HR1.out]; rfl, ?_⟩
      rw [HR1.out]
      exact ⟨hv5, rv, l8, fr8, g5⟩
    | some x =>
      have HR1 : Hid (R.1 = some x) := hr1
      have hx : ((x == 0) = false) := by
        have := drun_err D _ x (by rw [← HR.out]; exact hr1)
        rcases this with rfl | rfl <;> rfl
      rw [show errN (some x) = x from rfl]
      clear hr1
      go_wp2_with fail
      go_ret
      refine ⟨by rw [HR1.out]; rfl, ?_⟩
      rw [HR1.out] at l5 ⊢
      exact ⟨hv5, rv, l5, f5, g5⟩

end Go.Proofs.Ytlapgalefpenbaa

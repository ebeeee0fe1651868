/- Append. -/
import Derived.Test.YtlapgalefpenbaaLFlush
import Derived.Test.YtlapgalefpenbaaLRow
import Derived.Deep.RegionLaw
namespace Go.Proofs.Ytlapgalefpenbaa
open Go.RowKit

/-- The log behind Append. -/
def aafter (r : Option Int) (S : LS) (slot used : Nat) (t : ByteArray) : LS := match r with
  | none => { S with slot := slot, used := used, recs := S.recs ++ [t] }
  | some _ => { S with unfit := true }

section
variable {B b : Nat} {w : World} {lb g gs : Nat} {hv rv : Value} {D : DS} {S : LS}

set_option maxHeartbeats 400000 in
theorem append_nil (t : ByteArray) (w : World) : Calls Try.prog 15 #[.pointer none, .string t] w fun e w' => e = .returned (.int .i64 1) ∧ w' = w := by
  go_enter Try.func15, Try.ntmps15
  go_wp2_with fail
  refine (fit_nil w).mono ?_
  rintro e w1 ⟨rfl, h1⟩
  rw [h1]
  go_wp2_with fail
  go_ret
  exact ⟨rfl, rfl⟩

set_option maxHeartbeats 400000 in
theorem append_unfit (l : Lg B w lb g gs hv rv D S) (hu : S.unfit = true) (t : ByteArray) : Calls Try.prog 15 #[.pointer (some ⟨lb, 0, none⟩), .string t] w fun e w' => e = .returned (.int .i64 41) ∧ w' = w := by
  have c6 := (lcell l.log).2.2.2.2.2.2
  have cF := fit_any S.unfit c6
  rw [hu] at cF
  go_enter Try.func15, Try.ntmps15
  go_wp2_with fail
  refine cF.mono ?_
  rintro e w1 ⟨rfl, h1⟩
  rw [h1]
  go_wp2_with fail
  go_ret
  exact ⟨rfl, rfl⟩

set_option maxHeartbeats 800000 in
set_option maxRecDepth 100000 in
theorem append_full (l : Lg B w lb g gs hv rv D S) (hu : S.unfit = false) (h8 : 8 ≤ D.n) (hn : D.n ≤ 8192) (A : Nat) (hA : A = areaN D.n) (hus : S.used ≤ A) (t : ByteArray) (ht : t.size ≤ 1000000000) (hr : A < S.used + secs t) :
    Calls Try.prog 15 #[.pointer (some ⟨lb, 0, none⟩), .string t] w fun e w' => e = .returned (.int .i64 50) ∧ Below w.heap.size w w' := by
  obtain ⟨c0, _, _, c3, _, _, c6⟩ := lcell l.log
  have cF := fit_any S.unfit c6
  rw [hu] at cF
  have cS := fun w => sectorsOf_any t ht w
  have cR := room_any l.dev h8 hn A S.used hA hus c0 c3
  obtain ⟨m, hm⟩ : ∃ m, m = secs t := ⟨_, rfl⟩
  rw [← hm] at cS hr
  obtain ⟨r, hr2⟩ : ∃ r, r = A - S.used := ⟨_, rfl⟩
  rw [← hr2] at cR
  have d1 : (r : Int) < (m : Int) := by omega
  clear hA hm hr2
  go_enter Try.func15, Try.ntmps15
  go_wp2_with fail
  refine cF.mono ?_
  rintro e w1 ⟨rfl, h1⟩
  rw [h1]
  go_wp2_with fail
  refine (cS _).mono ?_
  rintro e w2 ⟨rfl, h2⟩
  rw [h2]
  go_wp2_with fail
  refine cR.mono ?_
  rintro e w3 ⟨rfl, b3⟩
  go_wp2_with fail
  go_ret
  exact ⟨rfl, b3⟩

set_option maxHeartbeats 1600000 in
set_option maxRecDepth 100000 in
theorem append_any (l : Lg B w lb g gs hv rv D S) (hi : Inv b D) (hB : B ≤ w.heap.size) (hu : S.unfit = false) (h8 : 8 ≤ D.n) (hn : D.n ≤ 8192) (A : Nat) (hA : A = areaN D.n) (t : ByteArray) (hr : S.used + secs t ≤ A) (hb : b + secs t + 4 ≤ 100000) (hrl : S.recs.length ≤ 1000000) (slot used : Nat) (hs : slot = S.slot % 2 + 1) (ha : S.area ≤ 1) (hus : used = S.used + secs t) (R : Option Int × DS) (hR : R = drun D (script A slot S.area S.used t)) :
    Calls Try.prog 15 #[.pointer (some ⟨lb, 0, none⟩), .string t] w fun e w' => e = .returned (.int .i64 (errN R.1)) ∧ LTo B w lb g gs hv rv R.2 (aafter R.1 S slot used t) w' := by
  obtain ⟨c0, _, c2, c3, _, _, c6⟩ := lcell l.log
  have hA4 : 2 * A + 4 ≤ D.n ∧ A ≤ 4096 := by rw [hA]; unfold areaN; omega
  have ht : t.size ≤ 1000000000 := by unfold secs at hr; omega
  have cF := fit_any S.unfit c6
  rw [hu] at cF
  have cS := fun w => sectorsOf_any t ht w
  have cR := room_any l.dev h8 hn A S.used hA (by omega) c0 c3
  have cSt := fun w (l : Lg B w lb g gs hv rv D S) (hB : B ≤ w.heap.size) => store_any l hi hB h8 hn A hA S.area S.used used slot hs ha t hus (by omega) hb
  rw [← hR] at cSt
  obtain ⟨m, hm⟩ : ∃ m, m = secs t := ⟨_, rfl⟩
  rw [← hm] at cS hr
  obtain ⟨r, hr2⟩ : ∃ r, r = A - S.used := ⟨_, rfl⟩
  rw [← hr2] at cR
  have d1 : ¬ (r : Int) < (m : Int) := by omega
  have HR : Hid (R = drun D (script A slot S.area S.used t)) := hR
  clear hA hm hR hus hr2
  go_enter Try.func15, Try.ntmps15
  go_wp2_with fail
  refine cF.mono ?_
  rintro e w1 ⟨rfl, h1⟩
  rw [h1]
  go_wp2_with fail
  refine (cS _).mono ?_
  rintro e w2 ⟨rfl, h2⟩
  rw [h2]
  go_wp2_with fail
  refine cR.mono ?_
  rintro e w3 ⟨rfl, b3⟩
  have l3 := l.below b3
  obtain ⟨_, _, x2, x3, _, _, _⟩ := lcell l3.log
  have hB3 : B ≤ w3.drew.heap.size := Nat.le_trans hB b3.size
  have lD3 : Lg B w3.drew lb g gs hv rv D S := l3.kept (fun _ _ => rfl)
  clear h1 h2 cF cS cR c0 c2 c3 c6
  go_wp2_with fail
  go_region_with (first | (go_at_call 39; refine (cSt _ lD3 hB3).mono ?_; rintro e w5 ⟨rfl, z5⟩))
  all_goals have z6 := z5.pre (below2 b3 (below_drew w3))
  all_goals cases hr1 : R.1 with
    | none =>
      have HR1 : Hid (R.1 = none) := hr1
      rw [hr1] at z6
      rw [show errN none = 0 from rfl]
      clear hr1 z5
      obtain ⟨hv5, rv5, l5, f5, g5⟩ := z6
      obtain ⟨_, _, _, _, _, x5, _⟩ := lcell l5.log
      have hlt5 := l5.lt lb (Or.inl rfl)
      have cC := fun w => clone_any t w (by omega)
      have lD5 : Lg B w5.drew lb g gs hv5 rv5 R.2 { S with slot := slot, used := used } := l5.kept (fun _ _ => rfl)
      have hB5 : B ≤ w5.heap.size := Nat.le_trans hB f5.size
      have fin : ∀ w6, Below w5.drew.heap.size w5.drew w6 → w6.cell? ⟨lb, 5, none⟩ = some rv5 ∧ (w6.alloc (.cells #[.string t] 9)).cell? ⟨lb, 5, none⟩ = some rv5 ∧ Hid (Row (w6.alloc (.cells #[.string t] 9)) B rv5 S.recs) ∧ Hid (B ≤ (w6.alloc (.cells #[.string t] 9)).heap.size) ∧
          ∀ v8 w8, Row w8 B v8 (S.recs ++ [t]) → Fr (fun k => rv5.ownBlock = some k) (w6.alloc (.cells #[.string t] 9)) w8 → (∀ k, v8.ownBlock = some k → rv5.ownBlock = some k ∨ (w6.alloc (.cells #[.string t] 9)).heap.size ≤ k) →
            w8.cell? ⟨lb, 5, none⟩ = some rv5 ∧ w8.frozen? ⟨lb, 5, none⟩ = false ∧ Hid (LTo B w lb g gs hv rv R.2 (aafter none S slot used t) (w8.setCell ⟨lb, 5, none⟩ v8)) := by
        intro w6 b6
        have l6 := lD5.below b6
        have l7 := l6.below (below_alloc1 w6 (.cells #[.string t] 9))
        have b7 := below2 (below2 (below_drew w5) b6) (below_alloc1 w6 (.cells #[.string t] 9))
        refine ⟨(lcell l6.log).2.2.2.2.2.1, (lcell l7.log).2.2.2.2.2.1, l7.row, Nat.le_trans hB5 b7.size, fun v8 w8 hrow8 f8 g8 => ?_⟩
        have nl : ¬ rv5.ownBlock = some lb := fun e => (l7.rn lb e).1 rfl
        have e8 := f8.block lb (l7.lt lb (Or.inl rfl)) nl
        have hrn8 : ∀ k, v8.ownBlock = some k → k ≠ lb ∧ ¬ foot g gs hv5 k := fun k hk => by
          rcases g8 k hk with q | q
          · exact l7.rn k q
          · exact ⟨fun e => by have := l7.lt lb (Or.inl rfl); omega, fun r => by have := l7.dev.lt k r; omega⟩
        have d8 : Dev B w8 g gs hv5 R.2 := l7.dev.kept (fun k r => f8.block k (l7.dev.lt k r) (fun e => (l7.rn k e).2 r))
        refine ⟨(World.cell?_of_block (a := ⟨lb, 5, none⟩) e8).trans (lcell l7.log).2.2.2.2.2.1, by rw [World.frozen?_of_block (a := ⟨lb, 5, none⟩) e8]; exact l7.free 5, ⟨hv5, v8, ?_, ?_, ?_⟩⟩
        · have hb8 : ∀ k, k ≠ lb → (w8.setCell ⟨lb, 5, none⟩ v8).heap[k]? = w8.heap[k]? := fun k hk => Below.heap_setCell _ _ _ _ hk
          exact ⟨d8.kept (fun k r => hb8 k (by rintro rfl; exact l7.ln r)), heap_setCell_same w8 lb 5 _ _ v8 (e8.trans l7.log), hrow8.kept (fun k r => hb8 k (hrn8 k r).1), l7.lB, l7.ln, hrn8⟩
        · refine ((f5.trans (Fr.of_below (F := footL lb g gs hv rv) b7) (fun _ _ x => x)).trans f8 (fun k hk e => ?_)).set (Or.inl (Or.inl rfl)) _
          rcases g5 k (Or.inr (Or.inr e)) with q | q
          · exact q
          · omega
        · rintro k (r | r | r)
          · exact Or.inl (Or.inl r)
          · exact g5 k (Or.inr (Or.inl r))
          · rcases g8 k r with q | q
            · exact g5 k (Or.inr (Or.inr q))
            · exact Or.inr (by have := f5.size; have := b7.size; omega)
      clear l5 f5 g5 lD5 hB5 hlt5
      go_wp2_with fail
      go_region_law (first
        | (have _ := hr6; refine step_append_row rfl (.tmp 37) (.tmp 40) rfl B rv5 S.recs (by simp [Act.eval]) hr6.out w6.heap.size t (by simp [Act.eval]) (by go_simp) hrl hB6.out ?_; intro v8 w8 hrow8 f8 g8 hv8; obtain ⟨p8, q8, r8, rfl⟩ := hv8; obtain ⟨c8, fz8, Z8⟩ := fin6 _ w8 hrow8 f8 g8)
        | (go_simp; go_at_call 40; refine (cC _).mono ?_; rintro e w6 ⟨rfl, b6⟩; obtain ⟨c65, c75, hr6, hB6, fin6⟩ := fin w6 b6; go_simp))
      all_goals go_wp2_with fail
      all_goals go_ret
      all_goals refine ⟨by rw [HR1.out]; rfl, ?_⟩
      all_goals rw [HR1.out]
      all_goals exact Z8.out
    | some x =>
      have HR1 : Hid (R.1 = some x) := hr1
      have hx : ((x == 0) = false) := by
        have := drun_err D _ x (by rw [← HR.out]; exact hr1)
        rcases this with rfl | rfl <;> rfl
      rw [show errN (some x) = x from rfl]
      clear hr1
      go_wp2_with fail
      go_ret
      refine ⟨by rw [HR1.out]; rfl, ?_⟩
      rw [HR1.out] at z6 ⊢
      exact z6
end

end Go.Proofs.Ytlapgalefpenbaa

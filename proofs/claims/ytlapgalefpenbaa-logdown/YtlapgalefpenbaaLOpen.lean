/- Open, Format. -/
import Derived.Test.YtlapgalefpenbaaLLoad
import Derived.Test.YtlapgalefpenbaaLAppend
namespace Go.Proofs.Ytlapgalefpenbaa
open Go.RowKit

theorem enters43 (av : Array Value) (w : World) : (callFunc 43 av).run Try.prog w = .ok (.enter 43 av) w := by
  go_simp
theorem enters36 (av : Array Value) (w : World) : (callFunc 36 av).run Try.prog w = .ok (.enter 36 av) w := by
  go_simp

/-- An attempt at what turns the log. -/
theorem att_log {B : Nat} {w : World} {lb g gs : Nat} {hv rv : Value} {D D' : DS} {S S' : LS} (l : Lg B w lb g gs hv rv D S) (k : Nat) (fi ca : Array Value) (hk : ∀ (av : Array Value) (w : World), (callFunc k av).run Try.prog w = .ok (.enter k av) w) (R : Option Int)
    (c : ∀ V6, Below w.heap.size w V6 → Calls Try.prog k (fi ++ ca) V6 fun e w' => e = dexit R ∧ LTo B V6 lb g gs hv rv D' S' w') :
    Calls Try.prog 35 #[.pointer (some ⟨lb, 0, none⟩), .func (.func k) fi ca] w fun e w' => e = .returned (.int .i64 (errN R)) ∧ LTo B w lb g gs hv rv D' (lafter R S' S') w' := by
  obtain ⟨V6, hV6⟩ : ∃ V6, V6 = (w.alloc (.cells #[.pointer (some ⟨lb, 0, none⟩)] 30)).alloc (.cells #[.int .i64 0] 27) := ⟨_, rfl⟩
  obtain ⟨H, hH⟩ : ∃ H, H = w.heap.size := ⟨_, rfl⟩
  have hb6 : Below w.heap.size w V6 := by rw [hV6]; exact below2 (below_alloc1 _ _) (below_alloc1 _ _)
  have hs6 : V6.heap.size = H + 2 := by rw [hV6, hH]; simp
  have q5 : V6.cell? ⟨H, 0, none⟩ = some (.pointer (some ⟨lb, 0, none⟩)) := by rw [hV6, hH]; go_simp
  have q6 : V6.cell? ⟨H + 1, 0, none⟩ = some (.int .i64 0) := by rw [hV6, hH]; go_simp
  have f6 : V6.frozen? ⟨H + 1, 0, none⟩ = false := by rw [hV6, hH]; go_simp
  have nf : ∀ k, w.heap.size ≤ k → ¬ footL lb g gs hv rv k := fun k hk r => by have := l.lt k r; omega
  have st := c V6 hb6
  have fin : ∀ w1, LTo B V6 lb g gs hv rv D' S' w1 → ∃ hv1 rv1, Lg B w1 lb g gs hv1 rv1 D' S' ∧ Fr (footL lb g gs hv rv) w w1 ∧ (∀ k, footL lb g gs hv1 rv1 k → footL lb g gs hv rv k ∨ w.heap.size ≤ k) ∧ ¬ footL lb g gs hv1 rv1 (H + 1) ∧
      w1.cell? ⟨H, 0, none⟩ = some (.pointer (some ⟨lb, 0, none⟩)) ∧ w1.cell? ⟨H + 1, 0, none⟩ = some (.int .i64 0) ∧ w1.frozen? ⟨H + 1, 0, none⟩ = false := by
    rintro w1 ⟨hv1, rv1, L1, f1, g1⟩
    have hh : H + 1 < V6.heap.size := by omega
    have hh2 : w.heap.size ≤ H + 1 := by omega
    have e0 := f1.block H (by omega) (nf _ (by omega))
    have e1 := f1.block (H + 1) (by omega) (nf _ (by omega))
    refine ⟨hv1, rv1, L1, (Fr.of_below hb6).trans f1 (fun _ _ x => x), fun k r => ?_, not_footL g1 hh (nf _ hh2), (World.cell?_of_block (a := ⟨H, 0, none⟩) e0).trans q5, (World.cell?_of_block (a := ⟨H + 1, 0, none⟩) e1).trans q6, (World.frozen?_of_block (a := ⟨H + 1, 0, none⟩) e1).trans f6⟩
    rcases g1 k r with x | x
    · exact Or.inl x
    · exact Or.inr (by have := hb6.size; omega)
  cases R with
  | none =>
    rw [show dexit none = .returned (.tuple #[]) from rfl] at st
    refine (attempt_ok lb k fi ca w (fun w1 => LTo B V6 lb g gs hv rv D' S' w1) H hH hk ?_).mono ?_
    · rw [← hV6]
      refine st.mono ?_
      rintro e w1 ⟨rfl, z⟩
      obtain ⟨hv1, rv1, _, _, _, _, _, c1, hf⟩ := fin w1 z
      exact ⟨rfl, z, c1, hf⟩
    · rintro e w' ⟨rfl, w1, z, rfl⟩
      obtain ⟨hv1, rv1, L1, f1, g1, nn, _⟩ := fin w1 z
      exact ⟨rfl, hv1, rv1, L1.aside nn 0 _, f1.set (Or.inr (by show w.heap.size ≤ H + 1; omega)) _, g1⟩
  | some x =>
    rw [show dexit (some x) = .panicked (pan x) from rfl] at st
    have hlt := l.lt lb (Or.inl rfl)
    refine (attempt_no lb k x fi ca w (fun w1 => LTo B V6 lb g gs hv rv D' S' w1) H hH (by omega) hk ?_).mono ?_
    · rw [← hV6]
      refine st.mono ?_
      rintro e w1 ⟨rfl, z⟩
      obtain ⟨hv1, rv1, L1, _, _, _, c0, c1, hf⟩ := fin w1 z
      exact ⟨rfl, z, c0, c1, hf, ⟨_, (lcell L1.log).2.2.2.2.2.2⟩, L1.free 6⟩
    · rintro e w' ⟨rfl, w1, z, rfl⟩
      obtain ⟨hv1, rv1, L1, f1, g1, nn, _⟩ := fin w1 z
      exact ⟨rfl, hv1, rv1, (L1.aside nn 0 _).unfit, (f1.set (Or.inr (by show w.heap.size ≤ H + 1; omega)) _).set (Or.inl (Or.inl rfl)) _, g1⟩

set_option maxHeartbeats 400000 in
theorem sectors_nil (w : World) : Calls Try.prog 32 #[.pointer none] w fun e w' => e = .returned (.int .i64 0) ∧ w' = w := by
  go_enter Try.func32, Try.ntmps32
  go_wp2_with fail
  go_ret
  exact ⟨rfl, rfl⟩

set_option maxHeartbeats 400000 in
theorem open_nil (w : World) : Calls Try.prog 20 #[.pointer none] w fun e w' => e = .returned (.tuple #[.pointer none, .int .i64 1]) ∧ w' = w := by
  go_enter Try.func20, Try.ntmps20
  go_wp2_with fail
  refine (sectors_nil w).mono ?_
  rintro e w1 ⟨rfl, e1⟩
  rw [e1]
  go_wp2_with fail
  exact bodyPost_ret (v := .tuple #[.pointer none, .int .i64 1]) (by simp [results, Try.results20, go_sem]) rfl ⟨rfl, rfl⟩

set_option maxHeartbeats 400000 in
theorem format_nil (t : ByteArray) (w : World) : Calls Try.prog 12 #[.pointer none, .string t] w fun e w' => e = .returned (.tuple #[.pointer none, .int .i64 1]) ∧ w' = w := by
  go_enter Try.func12, Try.ntmps12
  go_wp2_with fail
  refine (sectors_nil w).mono ?_
  rintro e w1 ⟨rfl, e1⟩
  rw [e1]
  go_wp2_with fail
  exact bodyPost_ret (v := .tuple #[.pointer none, .int .i64 1]) (by simp [results, Try.results12, go_sem]) rfl ⟨rfl, rfl⟩

section
variable {B b : Nat} {w : World} {g gs : Nat} {hv : Value} {D : DS}

set_option maxHeartbeats 400000 in
theorem open_small (d : Dev B w g gs hv D) (h8 : D.n < 8) : Calls Try.prog 20 #[.pointer (some ⟨g, 0, none⟩)] w fun e w' => e = .returned (.tuple #[.pointer none, .int .i64 1]) ∧ w' = w := by
  have h : (D.n : Int) < 8 := by omega
  go_enter Try.func20, Try.ntmps20
  go_wp2_with fail
  refine (sectors_any d).mono ?_
  rintro e w1 ⟨rfl, e1⟩
  rw [e1]
  go_wp2_with fail
  exact bodyPost_ret (v := .tuple #[.pointer none, .int .i64 1]) (by simp [results, Try.results20, go_sem]) rfl ⟨rfl, rfl⟩

set_option maxHeartbeats 400000 in
theorem format_small (d : Dev B w g gs hv D) (h8 : D.n < 8) (t : ByteArray) : Calls Try.prog 12 #[.pointer (some ⟨g, 0, none⟩), .string t] w fun e w' => e = .returned (.tuple #[.pointer none, .int .i64 1]) ∧ w' = w := by
  have h : (D.n : Int) < 8 := by omega
  go_enter Try.func12, Try.ntmps12
  go_wp2_with fail
  refine (sectors_any d).mono ?_
  rintro e w1 ⟨rfl, e1⟩
  rw [e1]
  go_wp2_with fail
  exact bodyPost_ret (v := .tuple #[.pointer none, .int .i64 1]) (by simp [results, Try.results12, go_sem]) rfl ⟨rfl, rfl⟩

set_option maxHeartbeats 400000 in
theorem format_full (d : Dev B w g gs hv D) (h8 : 8 ≤ D.n) (hn : D.n ≤ 8192) (A : Nat) (hA : A = areaN D.n) (t : ByteArray) (ht : t.size ≤ 1000000000) (hr : A < secs t) : Calls Try.prog 12 #[.pointer (some ⟨g, 0, none⟩), .string t] w fun e w' => e = .returned (.tuple #[.pointer none, .int .i64 50]) ∧ w' = w := by
  have h : ¬ (D.n : Int) < 8 := by omega
  have cS := fun w => sectorsOf_any t ht w
  have cA := areaOf_any d h8 hn A hA
  have hr2 : (A : Int) < (secs t : Int) := by omega
  clear hA
  generalize secs t = m at *
  go_enter Try.func12, Try.ntmps12
  go_wp2_with fail
  refine (sectors_any d).mono ?_
  rintro e w1 ⟨rfl, e1⟩
  rw [e1]
  go_wp2_with fail
  refine (cS _).mono ?_
  rintro e w2 ⟨rfl, e2⟩
  rw [e2]
  go_wp2_with fail
  refine cA.mono ?_
  rintro e w3 ⟨rfl, e3⟩
  rw [e3]
  go_wp2_with fail
  exact bodyPost_ret (v := .tuple #[.pointer none, .int .i64 50]) (by simp [results, Try.results12, go_sem]) rfl ⟨rfl, rfl⟩

/-- A new log beside a device. -/
theorem Lg.new (d : Dev B w g gs hv D) (hB : B ≤ w.heap.size) (o : Obj) (ho : o = .cells (lcells g (.slice none 0 0) LS0) 81) : Lg B (w.alloc o) w.heap.size g gs hv (.slice none 0 0) D LS0 := by
  subst ho
  exact ⟨d.below (below_alloc1 _ _), heap_alloc_new w _, Or.inl ⟨rfl, rfl⟩, hB, fun r => by have := d.lt _ r; omega, (by intro k h; cases h)⟩

/-- What Open or Format gives. -/
def Opened (B : Nat) (w : World) (g gs : Nat) (hv : Value) (D' : DS) (S' : LS) (lb : Nat) (w' : World) : Prop :=
  ∃ hv' rv', Lg B w' lb g gs hv' rv' D' S' ∧ Fr (foot g gs hv) w w' ∧ ∀ k, footL lb g gs hv' rv' k → foot g gs hv k ∨ w.heap.size ≤ k

theorem LTo.opened {w1 w' : World} {D' : DS} {S' : LS} {lb : Nat} (z : LTo B w1 lb g gs hv (.slice none 0 0) D' S' w') (hb : Below w.heap.size w w1) (hlb : w.heap.size ≤ lb) : Opened B w g gs hv D' S' lb w' := by
  obtain ⟨hv', rv', l, f, gr⟩ := z
  refine ⟨hv', rv', l, (Fr.of_below (F := foot g gs hv) hb).trans f (fun i hi h => ?_), fun k h => ?_⟩
  · rcases h with r | r | r
    · omega
    · exact r
    · cases r
  · rcases gr k h with (r | r | r) | r
    · exact Or.inr (by omega)
    · exact Or.inl r
    · cases r
    · exact Or.inr (Nat.le_trans hb.size r)

set_option maxHeartbeats 800000 in
set_option maxRecDepth 100000 in
theorem open_none (d : Dev B w g gs hv D) (hB : B ≤ w.heap.size) (h8 : 8 ≤ D.n) (hl : D.left ≠ 0) (h0 : D.seen 0 = blk 0) :
    Calls Try.prog 20 #[.pointer (some ⟨g, 0, none⟩)] w fun e w' => e = .returned (.tuple #[.pointer none, .int .i64 11]) ∧ ∃ S lb, Opened B w g gs hv D S lb w' := by
  have h : ¬ (D.n : Int) < 8 := by omega
  have hmf : ∀ (fn : Fn) (first cap : Array Value) (w : World), (Instr.makeFunc fn first cap).run Try.prog w = .ok (.func fn first cap) w := fun _ _ _ _ => rfl
  have l1 := Lg.new d hB (.cells #[.pointer (some ⟨g, 0, none⟩), .int .i64 0, .int .i64 0, .int .i64 0, .string ⟨#[]⟩, .slice none 0 0, .bool false] 81) rfl
  have cA := att_log l1 43 #[.pointer (some ⟨w.heap.size, 0, none⟩)] #[] enters43 (some 11) (fun V6 h6 => load_none (l1.below h6) (by omega) hl h0)
  clear h0
  go_enter Try.func20, Try.ntmps20
  go_wp2_with fail
  refine (sectors_any d).mono ?_
  rintro e w1 ⟨rfl, e1⟩
  rw [e1]
  go_wp2_with fail
  refine cA.mono ?_
  rintro e w2 ⟨rfl, z2⟩
  rw [show errN (some 11) = 11 from rfl]
  go_wp2_with fail
  exact bodyPost_ret (v := .tuple #[.pointer none, .int .i64 11]) (by simp [results, Try.results20, go_sem]) rfl ⟨rfl, _, _, z2.opened (below_alloc1 _ _) (Nat.le_refl _)⟩

set_option maxHeartbeats 800000 in
set_option maxRecDepth 100000 in
theorem open_good (d : Dev B w g gs hv D) (hi : Inv b D) (hb : b ≤ 100000) (hB : B ≤ w.heap.size) (h8 : 8 ≤ D.n) (hl : D.left ≠ 0) (A : Nat) (hA : A = areaN D.n) (P : PS) (hP : Holds A D.seen P) (hm : mark D.seen = some (UInt8.ofNat P.slot)) (t : ByteArray) (r : List ByteArray) (hT : P.T = t :: r) :
    Calls Try.prog 20 #[.pointer (some ⟨g, 0, none⟩)] w fun e w' => ∃ lb, e = .returned (.tuple #[.pointer (some ⟨lb, 0, none⟩), .int .i64 0]) ∧ w.heap.size ≤ lb ∧ Opened B w g gs hv D.flushed ⟨P.slot, P.area, P.used, t, r, false⟩ lb w' := by
  have h : ¬ (D.n : Int) < 8 := by omega
  have hmf : ∀ (fn : Fn) (first cap : Array Value) (w : World), (Instr.makeFunc fn first cap).run Try.prog w = .ok (.func fn first cap) w := fun _ _ _ _ => rfl
  have l1 := Lg.new d hB (.cells #[.pointer (some ⟨g, 0, none⟩), .int .i64 0, .int .i64 0, .int .i64 0, .string ⟨#[]⟩, .slice none 0 0, .bool false] 81) rfl
  have cA := att_log l1 43 #[.pointer (some ⟨w.heap.size, 0, none⟩)] #[] enters43 none (fun V6 h6 => load_good (l1.below h6) hi hb (by have := h6.size; simp at this; omega) h8 hl A hA P hP hm t r hT)
  clear hP hm hA hT
  go_enter Try.func20, Try.ntmps20
  go_wp2_with fail
  refine (sectors_any d).mono ?_
  rintro e w1 ⟨rfl, e1⟩
  rw [e1]
  go_wp2_with fail
  refine cA.mono ?_
  rintro e w2 ⟨rfl, z2⟩
  rw [show errN none = 0 from rfl]
  go_wp2_with fail
  exact bodyPost_ret (v := .tuple #[.pointer (some ⟨w.heap.size, 0, none⟩), .int .i64 0]) (by simp [results, Try.results20, go_sem]) rfl ⟨_, rfl, Nat.le_refl _, z2.opened (below_alloc1 _ _) (Nat.le_refl _)⟩
end

end Go.Proofs.Ytlapgalefpenbaa

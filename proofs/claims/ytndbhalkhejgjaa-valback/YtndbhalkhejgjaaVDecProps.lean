/- The contracts of decodeProp and DecodeProps. -/
import Derived.Test.YtndbhalkhejgjaaVDecL
import Derived.Test.YtndbhalkhejgjaaVSl
import Derived.Test.YtndbhalkhejgjaaVPropsC
namespace Go.Proofs.Ytndbhalkhejgjaa
open Go.RowKit
attribute [local go_sem ↓] Go.wp_at_zero Go.wp_at_succ

/-- What decodeProp answers. -/
def gotP (d : Pr × Nat × Bool) : Value := .tuple #[.agg #[.string d.1.name, .int .i64 d.1.v.k, .int .i64 d.1.v.n, .string d.1.v.s], .int .i64 (d.2.1 : Int), .bool d.2.2]

theorem below_set4a {w w1 : World} (h : Below w.heap.size w w1) (a b c d : Value) :
    Below w.heap.size w ((((w1.setCell ⟨w.heap.size, 0, none⟩ a).setCell ⟨w.heap.size, 1, none⟩ b).setCell ⟨w.heap.size, 2, none⟩ c).setCell ⟨w.heap.size, 3, none⟩ d) :=
  (((h.setCell (p := ⟨w.heap.size, 0, none⟩) (Nat.le_refl _) a).setCell (p := ⟨w.heap.size, 1, none⟩) (Nat.le_refl _) b).setCell (p := ⟨w.heap.size, 2, none⟩) (Nat.le_refl _) c).setCell (p := ⟨w.heap.size, 3, none⟩) (Nat.le_refl _) d

theorem below_set4b {w w1 : World} (h : Below w.heap.size w w1) (a b c d : Value) (o : Obj) :
    Below w.heap.size w (((((w1.setCell ⟨w.heap.size, 0, none⟩ a).setCell ⟨w.heap.size, 1, none⟩ b).setCell ⟨w.heap.size, 2, none⟩ c).setCell ⟨w.heap.size, 3, none⟩ d).alloc o) :=
  (below_set4a h a b c d).alloc (below_set4a h a b c d).size o

set_option maxHeartbeats 800000 in
set_option maxRecDepth 100000 in
theorem decodeProp_any (s : ByteArray) (q : Nat) (w : World) (hs : s.size ≤ 281474976710656) (hq : q ≤ s.size) :
    Calls Try.prog 52 #[.string s, .int .i64 (q : Int)] w fun e w' => e = .returned (gotP (decP s q)) ∧ Below w.heap.size w w' := by
  have cT := fun w => getText_any s (q : Int) 16 w hs (by omega)
  have hin := text_in s.data.toList (q : Int) 16
  have hl : s.data.toList.length = s.size := by simp
  unfold decP
  generalize getTextAt s.data.toList (q : Int) 16 = t at *
  obtain ⟨tx, tn, tok⟩ := t
  simp only at *
  cases tok with
  | false =>
    rw [if_neg (by simp)]
    clear hin hl hq
    generalize ba tx = T at *
    go_enter Try.func52, Try.ntmps52
    go_wp2_with fail
    refine (cT _).mono ?_
    rintro e w1 ⟨rfl, hb1⟩
    have hR : B4 w1 w.heap.size (.string ⟨#[]⟩) (.int .i64 0) (.int .i64 0) (.string ⟨#[]⟩) := (B4.new w _ _ _ _ _ rfl).kept hb1 (by simp)
    have hz1 : w.heap.size < w1.heap.size := by have := hb1.size; simp at this; omega
    obtain ⟨r0, r1, r2, r3, f0, f1, f2, f3⟩ := hR
    go_wp2_with fail
    refine bodyPost_ret (v := gotP (⟨⟨#[]⟩, noV⟩, 0, false)) (by simp [results, Try.results52, go_sem, gotP, noV, r0, r1, r2, r3]) rfl ⟨rfl, ?_⟩
    exact below_set4a (below2 (below_alloc1 w _) hb1) _ _ _ _
  | true =>
    rw [if_pos rfl]
    obtain ⟨_, h1, h2, _⟩ := hin rfl
    rw [hl] at h2
    have h3 : q + tn ≤ s.size := by omega
    have cV := fun w => decode_any s ((q + tn : Nat) : Int) w hs
    have hdin := decV_in s ((q + tn : Nat) : Int)
    have hdno := decV_no s ((q + tn : Nat) : Int)
    have hsz : tn + (decV s ((q + tn : Nat) : Int)).2.1 ≤ s.size := by
      cases hok : (decV s ((q + tn : Nat) : Int)).2.2 with
      | true => have := hdin hok; omega
      | false => rw [hdno hok]; simp only; omega
    clear hdin hdno hin hl h1 h2
    generalize decV s ((q + tn : Nat) : Int) = d at *
    obtain ⟨⟨dk, dn, ds⟩, dz, dok⟩ := d
    rw [show ((q + tn : Nat) : Int) = (q : Int) + (tn : Int) by omega] at cV
    simp only [gotW] at *
    have ha : IntKind.i64.wrap ((q : Int) + (tn : Int)) = (q : Int) + (tn : Int) := by rw [IntKind.wrap_i64]; omega
    have hb' : IntKind.i64.wrap ((tn : Int) + (dz : Int)) = (tn : Int) + (dz : Int) := by rw [IntKind.wrap_i64]; omega
    generalize ba tx = T at *
    go_enter Try.func52, Try.ntmps52
    go_wp2_with fail
    refine (cT _).mono ?_
    rintro e w1 ⟨rfl, hb1⟩
    have hR : B4 w1 w.heap.size (.string ⟨#[]⟩) (.int .i64 0) (.int .i64 0) (.string ⟨#[]⟩) := (B4.new w _ _ _ _ _ rfl).kept hb1 (by simp)
    have hz1 : w.heap.size < w1.heap.size := by have := hb1.size; simp at this; omega
    go_wp2_with fail
    refine (cV _).mono ?_
    rintro e w2 ⟨rfl, hb2⟩
    have hR := hR.kept hb2 hz1
    have hz2 : w.heap.size < w2.heap.size := by have := hb2.size; omega
    obtain ⟨r0, r1, r2, r3, f0, f1, f2, f3⟩ := hR
    go_wp2_with fail
    refine bodyPost_ret (v := gotP (⟨T, ⟨dk, dn, ds⟩⟩, tn + dz, dok)) (by simp [results, Try.results52, go_sem, gotP, hz2, r0, r1, r2, r3]) rfl ⟨rfl, ?_⟩
    exact below_set4b (below3 (below_alloc1 w _) hb1 hb2) _ _ _ _ _

end Go.Proofs.Ytndbhalkhejgjaa

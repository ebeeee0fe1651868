/- The laws' own example answers true; a device that is nil. -/
import Derived.Test.YthodnhcnaeajnaaDCrash
namespace Go.Proofs.Ythodnhcnaeajnaa
open Go.RowKit

theorem Fr.belowD {B : Nat} {W w w' : World} {g gs : Nat} {hv : Value} {D : DS} (hf : Fr (foot g gs hv) w w') (hb : Below W.heap.size W w) (h : Dev B w g gs hv D) (hB : W.heap.size ≤ B) : Below W.heap.size W w' :=
  hf.below hb hb.size (fun k hk => Nat.le_trans hB (h.from k hk))

set_option maxHeartbeats 1600000 in
set_option maxRecDepth 100000 in
theorem wakes_any (w : World) : Calls Try.prog 10 #[] w fun e w' => e = .returned (.bool true) ∧ Below w.heap.size w w' := by
  have cN := new_any 4 w (by omega) (by omega)
  have cB7 := fun w => block_any 7 7 rfl w
  have cB8 := fun w => block_any 8 8 rfl w
  have cB0 := fun w => block_any 0 0 rfl w
  have z7 := blk_size 7
  have z8 := blk_size 8
  have z0 := blk_size 0
  have e1 : ((((D0 4).wrote 1 (blk 7)).flushed.wrote 2 (blk 8)).crashed []).seen 1 = blk 7 := rfl
  have e2 : ((((D0 4).wrote 1 (blk 7)).flushed.wrote 2 (blk 8)).crashed []).seen 2 = blk 0 := rfl
  have e3 : ∀ j, j < 4 → (((D0 4).wrote 1 (blk 7)).flushed.wrote 2 (blk 8)).safe j = blk 7 ∨ (((D0 4).wrote 1 (blk 7)).flushed.wrote 2 (blk 8)).safe j = blk 0 := by
    intro j hj
    match j, hj with
    | 0, _ => exact Or.inr rfl
    | 1, _ => exact Or.inl rfl
    | 2, _ => exact Or.inr rfl
    | 3, _ => exact Or.inr rfl
  generalize blk 7 = s7 at *
  generalize blk 8 = s8 at *
  go_enter Try.func10, Try.ntmps10
  go_wp2_with fail
  refine cN.mono ?_
  rintro e w1 ⟨g, gs, rfl, h1, k1⟩
  go_wp2_with fail
  refine (cB7 _).mono ?_
  rintro e w2 ⟨rfl, b2⟩
  have h2 := h1.below b2
  have k2 := below2 k1 b2
  go_wp2_with fail
  refine (write_ok h2 1 (of_decide_eq_true rfl) s7 z7 (of_decide_eq_true rfl) (of_decide_eq_true rfl) k2.size (of_decide_eq_true rfl) (of_decide_eq_true rfl) (of_decide_eq_true rfl) (of_decide_eq_true rfl)).mono ?_
  rintro e w3 ⟨rfl, hv3, h3, f3, _⟩
  have k3 := f3.belowD k2 h2 (Nat.le_refl _)
  go_wp2_with fail
  refine (flush_ok h3 (of_decide_eq_true rfl) (by intro p hp; cases hp with | head => exact of_decide_eq_true rfl | tail _ h => cases h) (of_decide_eq_true rfl) (of_decide_eq_true rfl) (of_decide_eq_true rfl)).mono ?_
  rintro e w4 ⟨rfl, h4, f4⟩
  have k4 := f4.belowD k3 h3 (Nat.le_refl _)
  go_wp2_with fail
  refine (cB8 _).mono ?_
  rintro e w5 ⟨rfl, b5⟩
  have h5 := h4.below b5
  have k5 := below2 k4 b5
  go_wp2_with fail
  refine (write_ok h5 2 (of_decide_eq_true rfl) s8 z8 (of_decide_eq_true rfl) (of_decide_eq_true rfl) k5.size (of_decide_eq_true rfl) (of_decide_eq_true rfl) (of_decide_eq_true rfl) (of_decide_eq_true rfl)).mono ?_
  rintro e w6 ⟨rfl, hv6, h6, f6, _⟩
  have k6 := f6.belowD k5 h5 (Nat.le_refl _)
  go_wp2_with fail
  refine (held_any h6).mono ?_
  rintro e w7 ⟨rfl, e7⟩
  rw [e7]
  clear e7
  go_wp2_with fail
  refine (crash_any h6 [] none 0 (Or.inl rfl) (by intro b off h; cases h) (by intro p hp; cases hp with | head => exact ⟨of_decide_eq_true rfl, z8⟩ | tail _ h => cases h) (by intro j hj; rcases e3 j hj with e | e <;> rw [e] <;> assumption) (of_decide_eq_true rfl)).mono ?_
  rintro e w8 ⟨rfl, h8, f8⟩
  have k8 := f8.belowD k6 h6 (Nat.le_refl _)
  go_wp2_with fail
  refine (read_ok h8 1 (of_decide_eq_true rfl) (of_decide_eq_true rfl) s7 e1 z7).mono ?_
  rintro e w9 ⟨rfl, b9⟩
  have h9 := h8.below b9
  have k9 := below2 k8 b9
  go_wp2_with fail
  refine (read_ok h9 2 (of_decide_eq_true rfl) (of_decide_eq_true rfl) (blk 0) e2 z0).mono ?_
  rintro e w10 ⟨rfl, b10⟩
  have k10 := below2 k9 b10
  go_wp2_with fail
  refine (cB7 _).mono ?_
  rintro e w11 ⟨rfl, b11⟩
  have k11 := below2 k10 b11
  go_wp2_with fail
  refine (cB0 _).mono ?_
  rintro e w12 ⟨rfl, b12⟩
  go_wp2_with fail
  go_ret
  exact ⟨rfl, below2 k11 b12⟩

end Go.Proofs.Ythodnhcnaeajnaa

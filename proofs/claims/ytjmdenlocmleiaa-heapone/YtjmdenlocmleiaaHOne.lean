/- HeapOne: the walk. -/
import Derived.Test.YtjmdenlocmleiaaHAll
namespace Go.Proofs.Ytjmdenlocmleiaa
open Go.RowKit

section
variable {W w w' : World} {hb p g bd n m : Nat} {V : Nat → ByteArray} {H : Hp} {A : List Nat} {z : Prop} {E E' : List (Nat × Obj)}

/-- With one frame that is pinned nothing more is. -/
theorem pin_full {b : Nat} {S : St} {V : Nat → ByteArray} (h : Hv S V [0]) (ok : OkS b S) (hn : S.n = 1) (hd : 1 < S.D.n) : pinS S 1 = ((⟨#[]⟩, 70), S) := by
  obtain ⟨f, hf, h0⟩ := h.h 0 (by simp)
  have hl := ok.len
  obtain ⟨f', e⟩ : ∃ f', S.l = [f'] := by
    cases hS : S.l with
    | nil => rw [hS] at hf; cases hf
    | cons a r =>
      rw [hS] at hl
      have : r = [] := List.eq_nil_of_length_eq_zero (by simp at hl; omega)
      exact ⟨a, by rw [this]⟩
  rw [e] at hf
  rw [List.mem_singleton] at hf
  subst hf
  have hp := h.p f (by rw [e]; simp)
  rw [h0, if_pos (by simp)] at hp
  have hx : idx S.l 1 = none := by
    cases hx : idx S.l 1 with
    | none => rfl
    | some i =>
      obtain ⟨f'', h1, h2, _⟩ := idx_some hx
      rw [e] at h1
      have := List.mem_of_getElem? h1
      rw [List.mem_singleton] at this
      rw [this, h0] at h2
      cases h2
  have hu : uAt S.l 0 = [] := by
    rw [e]
    unfold uAt
    rw [if_neg (by omega)]
    rfl
  have ht : takeS S = (70, S) := by
    unfold takeS
    rw [if_pos (by rw [e, hn]; rfl), hu]
  unfold pinS
  rw [if_pos ⟨by decide, by omega⟩, hx]
  simp only
  rw [ht]
  exact if_neg (show ¬ (70 : Int) = 0 by decide)

theorem Hs.pinFull (h : Hs W w hb p g bd n 1 V [0] z E) (hbd : bd ≤ 80000) (hn : 1 < n) :
    Calls Try.prog 18 #[.pointer (some ⟨p, 0, none⟩), .int .i64 1] w fun e w' => e = .returned (.tuple #[.string ⟨#[]⟩, .int .i64 70]) ∧ Hs W w' hb p g (bd + 2) n 1 V [0] z E := by
  obtain ⟨S, a, b, rfl, h1, hz⟩ := h.ex
  refine (a.pin hbd 1).mono ?_
  rintro e w' ⟨rfl, q⟩
  rw [pin_full b a.ok h1 hn] at q ⊢
  exact ⟨rfl, ⟨S, q, b, rfl, h1, hz⟩⟩

set_option maxHeartbeats 1600000 in
set_option maxRecDepth 100000 in
theorem insert_one (h : Hs W w hb p g bd n 1 V [] z E) (hz : z) (hbd : bd ≤ 50000) (hn : 1 < n) (row : ByteArray) (hl : row.size ≤ 400) :
    Calls Try.prog 8 #[.pointer (some ⟨hb, 0, none⟩), .string row] w fun e w' => e = .returned (.tuple #[.int .i64 0, .int .i64 70]) ∧ Hs W w' hb p g (bd + 10) n 1 V [] z E := by
  have c0 := h.cell
  have hl2 : decide ((400 : Int) < (row.size : Int)) = false := by simp; omega
  have cP := h.pin (by omega) (by show 0 < 1; decide) 0 (by omega) (by simp)
  clear h
  go_enter_defers Try.func8, Try.ntmps8
  go_wp2_with fail
  go_step3
  go_wp2_with fail
  refine cP.mono ?_
  rintro e w1 (⟨rfl, t1⟩ | ⟨rfl, nz, t1⟩)
  · have c1 := t1.cell
    clear cP
    go_wp2_with fail
    go_step3
    go_wp2_with fail
    go_loopw [8] (fun sa wr => sa = .int .i64 1 ∧ Hs W wr hb p g (bd + 2) n 1 V [0] z E) (fun _ _ => 1)
    case atStart => exact ⟨rfl, t1⟩
    case round =>
      obtain ⟨rfl, t⟩ := hrel
      have cR := t.cell
      clear t1
      have cI := insertAt_err t (V 0) row 1 70 (by decide) (fun w1 F t => t.pinFull (by omega) hn)
      have cU : ∀ (b : Nat) (V : Nat → ByteArray) (w : World), b ≤ 80000 → Hs W w hb p g b n 1 V [0] z E → CallsD Try.prog 19 #[.pointer (some ⟨p, 0, none⟩), .int .i64 0] .returning w fun e u' w' => u' = .returning ∧ e = .returned (.int .i64 0) ∧ Hs W w' hb p g (b + 1) n 1 V [] z E :=
        fun b V w hb' t => t.unpinD .returning hb' (k := 0) (by simp) [] (by intro j hj; simp [hj]) (by simp)
      clear t
      go_wp2_with fail
      refine cI.mono ?_
      rintro e w3 ⟨rfl, t3⟩
      clear cI
      go_wp2_with fail
      rw [Exit.noGoto_ret]
      refine leaves_cons (f := 19) (args := #[.pointer (some ⟨p, 0, none⟩), .int .i64 0]) (by simp) (by simp [go_sem]) ?_
      refine (cU _ _ _ (by omega) t3).mono ?_
      rintro e u' w'' ⟨rfl, rfl, q⟩
      exact ⟨_, results_tmp2 rfl _ _ _, rfl, q.mono (by omega)⟩
  · exact absurd hz nz
end

theorem places_empty (n : Nat) : placesN n (fun _ => []) = [] := by
  rw [placesN_eq]
  simp
theorem del_empty (n : Nat) (k : Int) : delHX n (fun _ => []) k = 60 := by
  unfold delHX
  refine delE_none ?_
  unfold pgOf
  split <;> exact rowAt_nil _

set_option maxHeartbeats 3200000 in
set_option maxRecDepth 100000 in
theorem heapOne_on (row : ByteArray) (k : Int) (w : World) (_hrs : row.size ≤ maxLen) (_hk : -9223372036854775808 ≤ k ∧ k ≤ 9223372036854775807) :
    Calls Try.prog 3 #[.string row, .int .i64 k] w fun e w' => e = .returned (.bool true) ∧ Below w.heap.size w w' := by
  have cM := made_any 4 1 (by decide) (by decide) w
  have cW := hwakes_any
  clear _hrs _hk
  by_cases hl : row.size ≤ 400
  · have hl2 : decide ((400 : Int) < (row.size : Int)) = false := by simp; omega
    go_enter Try.func3, Try.ntmps3
    go_wp2_with fail
    refine cM.mono ?_
    rintro e w1 ⟨g, p, hb, rfl, t1⟩
    have cI := insert_one t1 trivial (by omega) (by decide) row hl
    clear cM t1 hl
    go_wp2_with fail
    refine cI.mono ?_
    rintro e w2 ⟨rfl, t2⟩
    have cP := places_any t2 (by omega) (by decide) (vok_new 4 (by decide) (by decide)) (by decide) trivial
    rw [places_empty] at cP
    clear cI t2
    go_wp2_with fail
    refine cP.mono ?_
    rintro e w3 ⟨v, rfl, t3⟩
    obtain ⟨va, vc, rfl, _, _⟩ := t3.row.len
    have cG := get_heap t3.base (by omega) (by decide) (vok_new 4 (by decide) (by decide)) trivial k
    rw [del_empty] at cG
    clear cP t3
    go_wp2_with fail
    refine cG.mono ?_
    rintro e w4 ⟨rfl, t4⟩
    have cW4 := cW w4
    clear cG cW
    have HB : Hid (Below w.heap.size w w4) := t4.bel
    clear t4
    go_wp2_with fail
    refine cW4.mono ?_
    rintro e w5 ⟨rfl, b5⟩
    clear cW4
    go_wp2_with fail
    go_ret
    exact ⟨rfl, below2 HB.out b5⟩
  · have hl2 : decide ((400 : Int) < (row.size : Int)) = true := by simp; omega
    go_enter Try.func3, Try.ntmps3
    go_wp2_with fail
    refine cM.mono ?_
    rintro e w1 ⟨g, p, hb, rfl, t1⟩
    have cW1 := cW w1
    have HB : Hid (Below w.heap.size w w1) := t1.bel
    clear cM t1 hl cW
    go_wp2_with fail
    refine cW1.mono ?_
    rintro e w5 ⟨rfl, b5⟩
    clear cW1
    go_wp2_with fail
    go_ret
    exact ⟨rfl, below2 HB.out b5⟩
end Go.Proofs.Ytjmdenlocmleiaa

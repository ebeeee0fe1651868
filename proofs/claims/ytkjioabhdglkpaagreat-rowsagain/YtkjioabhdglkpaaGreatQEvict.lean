/- Evict. -/
import Derived.Test.YtkjioabhdglkpaaGreatQSect
namespace Go.Proofs.YtkjioabhdglkpaaGreat
open Go.RowKit

/-- Which of m is meant by n. -/
theorem tmod_emod (n : Int) (m : Nat) (hm : 1 ≤ m) : (n.tmod m < 0 ∧ n.tmod m + m = n % m ∧ -(m : Int) < n.tmod m) ∨ (0 ≤ n.tmod m ∧ n.tmod m = n % m) := by
  have h1 : n = m * n.tdiv m + n.tmod m := (Int.mul_tdiv_add_tmod n m).symm
  have h2 : n % m = (n.tmod m) % m := by
    conv => lhs; rw [h1]
    rw [Int.add_comm, Int.add_mul_emod_self_left]
  obtain ⟨r, hr, _, h3, h4⟩ := tmod_mod n m hm
  rcases Int.lt_or_le (n.tmod m) 0 with h | h
  · refine Or.inl ⟨h, ?_, h3⟩
    rw [h2, ← Int.add_emod_right, Int.emod_eq_of_lt (by omega) (by omega)]
  · exact Or.inr ⟨h, by rw [h2, Int.emod_eq_of_lt h h4]⟩

def evictS (S : St) (n : Int) : Int × St :=
  match (uAt S.l 0)[(n % ((uAt S.l 0).length : Int)).toNat]? with
  | none => (60, S)
  | some i => match S.l[i]? with
    | none => (60, S)
    | some f => giveS S i f

section
variable {B bd : Nat} {w : World} {x : PX}

theorem unL_len (L : List (Nat × Fm)) (k : Nat) : (unL L).length = (uAt (frs L) k).length := by
  induction L generalizing k with
  | nil => rfl
  | cons y L ih =>
    by_cases hp : y.2.pins = 0
    · have e2 : uAt (frs (y :: L)) k = k :: uAt (frs L) (k + 1) := by
        show uAt (y.2 :: frs L) k = _
        conv => lhs; unfold uAt
        rw [if_pos hp]
      rw [show unL (y :: L) = y :: unL L by simp [unL, hp], e2, List.length_cons, List.length_cons, ih]
    · have e2 : uAt (frs (y :: L)) k = uAt (frs L) (k + 1) := by
        show uAt (y.2 :: frs L) k = _
        conv => lhs; unfold uAt
        rw [if_neg hp]
      rw [show unL (y :: L) = unL L by simp [unL, hp], e2, ih]

set_option maxHeartbeats 1600000 in
set_option maxRecDepth 100000 in
theorem evict_none (h : Pd B w x) (hf : x.fv = x.hv) (hl : x.L.length ≤ 1000) (n : Int) (hU : unL x.L = []) :
    Calls Tryz.prog 17 #[.pointer (some ⟨x.p, 0, none⟩), .int .i64 n] w fun e w' => e = .returned (.int .i64 60) ∧ PTo B w x x w' := by
  have c := unpinned_any h hf hl
  rw [hU] at c
  have HP : Hid (Pd B w x) := h
  clear h hU hf
  go_enter Tryz.func17, Tryz.ntmps17
  go_wp2_with fail
  refine c.mono ?_
  rintro e w1 ⟨v, rfl, ho, hb⟩
  obtain ⟨va, vc, rfl⟩ : ∃ va vc, v = .slice va 0 vc := by
    rcases ho.2 with ⟨q, _⟩ | ⟨_, _, _, q, _⟩
    · exact ⟨_, _, q⟩
    · exact ⟨_, _, q⟩
  clear c
  go_wp2_with fail
  go_ret
  exact ⟨rfl, PTo.of_below HP.out hb⟩

set_option maxHeartbeats 1600000 in
set_option maxRecDepth 100000 in
theorem evict_at (h : Pd B w x) (hf : x.fv = x.hv) (hl : x.L.length ≤ 1000) (n : Int) (_hn1 : -9223372036854775808 ≤ n) (_hn2 : n ≤ 9223372036854775807) {m b : Nat} {f : Fm} (hm : (n % ((unL x.L).length : Int)) = (m : Int)) (hU : (unL x.L)[m]? = some (b, f)) (E : Int) (K : PX → Prop)
    (cG : ∀ w1, Below w.heap.size w w1 → Calls Tryz.prog 40 #[.pointer (some ⟨x.p, 0, none⟩), .pointer (some ⟨b, 0, none⟩)] w1 fun e w' => e = .returned (.int .i64 E) ∧ ∃ x1, PTo B w1 x x1 w' ∧ K x1) :
    Calls Tryz.prog 17 #[.pointer (some ⟨x.p, 0, none⟩), .int .i64 n] w fun e w' => e = .returned (.int .i64 E) ∧ ∃ x1, PTo B w x x1 w' ∧ K x1 := by
  have c := unpinned_any h hf hl
  have HP : Hid (Pd B w x) := h
  have hmlt : m < (unL x.L).length := (List.getElem?_eq_some_iff.1 hU).1
  have hul : (unL x.L).length ≤ 1000 := Nat.le_trans (List.length_filter_le _ _) hl
  have HU : Hid ((ptrs (unL x.L))[m]? = some (.pointer (some ⟨b, 0, none⟩))) := by show _ = _; simp [ptrs, hU, ptr]
  have htm := tmod_emod n (unL x.L).length (by omega)
  rw [hm] at htm
  clear h hU hf hm
  generalize hM : unL x.L = M at *
  have hM1 : ((M.length : Int) == 0) = false := by rw [beq_eq_false_iff_ne]; omega
  have hM2 : ((M.length : Int) == -1) = false := by rw [beq_eq_false_iff_ne]; omega
  go_enter Tryz.func17, Tryz.ntmps17
  go_wp2_with fail
  refine c.mono ?_
  rintro e w1 ⟨v, rfl, ho, hb⟩
  obtain ⟨va, vc, rfl, hvc, _, _, _, _, v0⟩ := own1_cell ho HU.out
  have hg := cG w1 hb
  clear c cG
  go_upto_region 7 with fail
  generalize n.tmod (M.length : Int) = t at *
  rcases htm with ⟨t1, t2, t3⟩ | ⟨t1, t2⟩
  · have ht : decide (t < 0) = true := by simpa using t1
    go_upto_region 9 with fail
    clear t1 t2 t3 ht
    go_wp2_with fail
    refine hg.mono ?_
    rintro e w2 ⟨rfl, x2, p2, k2⟩
    have HX : Hid (∃ x1, PTo B w x x1 w2 ∧ K x1) := ⟨x2, (PTo.of_below HP.out hb).trans p2, k2⟩
    clear p2 k2 hg
    go_wp2_with fail
    go_ret
    exact ⟨rfl, HX.out⟩
  · subst t2
    go_wp2_with fail
    refine hg.mono ?_
    rintro e w2 ⟨rfl, x2, p2, k2⟩
    have HX : Hid (∃ x1, PTo B w x x1 w2 ∧ K x1) := ⟨x2, (PTo.of_below HP.out hb).trans p2, k2⟩
    clear p2 k2 hg
    go_wp2_with fail
    go_ret
    exact ⟨rfl, HX.out⟩

theorem evict_any (h : Pd B w x) (k : Good bd x) (hbd : bd ≤ 9000000) (hB : B ≤ w.heap.size) (n : Int) (hn1 : -9223372036854775808 ≤ n) (hn2 : n ≤ 9223372036854775807) :
    Calls Tryz.prog 17 #[.pointer (some ⟨x.p, 0, none⟩), .int .i64 n] w fun e w' => e = .returned (.int .i64 (evictS x.st n).1) ∧ ∃ x', PTo B w x x' w' ∧ x'.st = (evictS x.st n).2 ∧ Good (bd + 1) x' := by
  have hl := k.len
  have hlen := unL_len x.L 0
  by_cases hz : unL x.L = []
  · have e : evictS x.st n = (60, x.st) := by
      have : uAt x.st.l 0 = [] := List.eq_nil_of_length_eq_zero (by show (uAt (frs x.L) 0).length = 0; rw [← hlen, hz]; rfl)
      unfold evictS
      rw [this]
      rfl
    rw [e]
    refine (evict_none h k.fv (by omega) n hz).mono ?_
    rintro e w' ⟨rfl, t⟩
    exact ⟨rfl, x, t, rfl, k.mono (Nat.le_succ _)⟩
  · have hpos : 1 ≤ (unL x.L).length := List.length_pos_iff.2 hz
    have h0 := Int.emod_nonneg n (b := ((unL x.L).length : Int)) (by omega)
    have h1 := Int.emod_lt_of_pos n (b := ((unL x.L).length : Int)) (by omega)
    obtain ⟨m, hm⟩ : ∃ m : Nat, n % ((unL x.L).length : Int) = (m : Int) := ⟨(n % ((unL x.L).length : Int)).toNat, by omega⟩
    rcases unL_get x.L 0 m with ⟨u1, _⟩ | ⟨i, ⟨b, f⟩, u1, u2, u3⟩
    · rw [List.getElem?_eq_none_iff] at u1
      omega
    · rw [Nat.zero_add] at u2
      have e : evictS x.st n = giveS x.st i f := by
        unfold evictS
        rw [show (uAt x.st.l 0).length = (unL x.L).length from hlen.symm, hm, Int.toNat_natCast, show (uAt x.st.l 0)[m]? = some i from u2]
        simp only
        rw [show x.st.l[i]? = some f from frs_of u3]
      obtain ⟨p1, p2, p3⟩ := k.L u3
      have hwr : x.wr ≤ 100000000 := by have := k.ok.wr; have e : x.st.wr = x.wr := rfl; omega
      have hok := k.ok.give (i := i) (f := f) (frs_of u3)
      rw [e]
      unfold giveS at hok ⊢
      by_cases he : wrE x.st.D f = 0
      · rw [if_pos he] at hok ⊢
        refine (evict_at h k.fv (by omega) n hn1 hn2 hm u1 0 (fun x' => x'.st = { x.st with l := x.st.l.eraseIdx i, wr := x.st.wr + wrN x.st.D f, D := wrD x.st.D f } ∧ Good (bd + 1) x') (fun w1 hb => ?_)).mono ?_
        · refine (give_ok (h.below hb) k.fv (by omega) u3 k.O bd k.ok.inv (by omega) p1 p2 hwr (Nat.le_trans hB hb.size) he).mono ?_
          rintro e w' ⟨rfl, dv, hv, t⟩
          have es : PX.st { x with fv := hv, hv := hv, dv := dv, D := wrD x.D f, wr := x.wr + wrN x.D f, L := x.L.eraseIdx i, F := x.F ++ [b] } = { x.st with l := x.st.l.eraseIdx i, wr := x.st.wr + wrN x.st.D f, D := wrD x.st.D f } := by
            simp only [PX.st, frs_erase]
          exact ⟨rfl, _, t, es, ⟨rfl, k.O, by rw [es]; exact hok⟩⟩
        · rintro e w' ⟨rfl, x', t, k1, k2⟩
          exact ⟨rfl, x', t, k1, k2⟩
      · rw [if_neg he] at hok ⊢
        refine (evict_at h k.fv (by omega) n hn1 hn2 hm u1 (wrE x.D f) (fun x' => x'.st = { x.st with D := wrD x.st.D f } ∧ Good (bd + 1) x') (fun w1 hb => ?_)).mono ?_
        · refine (give_no (h.below hb) u3 k.O bd k.ok.inv (by omega) p1 p2 hwr (Nat.le_trans hB hb.size) he).mono ?_
          rintro e w' ⟨rfl, dv, t⟩
          exact ⟨rfl, _, t, rfl, ⟨k.fv, k.O, hok⟩⟩
        · rintro e w' ⟨rfl, x', t, k1, k2⟩
          exact ⟨rfl, x', t, k1, k2⟩
end
end Go.Proofs.YtkjioabhdglkpaaGreat

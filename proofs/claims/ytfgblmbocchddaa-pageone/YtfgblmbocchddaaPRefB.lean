/- The document's page: Free, Put. -/
import Derived.Test.YtfgblmbocchddaaPRefA
namespace Go.Proofs.Ytfgblmbocchddaa
open Go.RowKit

set_option maxHeartbeats 1600000 in
set_option maxRecDepth 100000 in
theorem rfree_any {B : Nat} {w : World} {qb : Nat} {v : Value} {l : List Sl} (h : Pgr B w qb v l) (hF : Fine l) (N : Int) (HN : Hid (freeN l = N)) :
    Calls Try.prog 31 #[.pointer (some ⟨qb, 0, none⟩)] w fun e w' => e = .returned (.int .i64 N) ∧ Below w.heap.size w w' := by
  have hl : l.length ≤ 127 := few hF.room
  obtain ⟨hc0, _⟩ := h.cell
  have hc : w.drew.cell? ⟨qb, 0, none⟩ = some v := hc0
  obtain ⟨a, c, hv, hlc, _⟩ := h.row.len
  subst hv
  obtain ⟨T, hT⟩ : ∃ T : Int, 4 + 4 * (l.length : Int) + (tot l : Int) = T := ⟨_, rfl⟩
  have cS := rsize_any h (by omega) hF.rows T hT
  have hTb : 0 ≤ T ∧ T ≤ 512 := by have := hF.room; unfold room at this; omega
  have hw := withF_tot l
  have hd : Pgr B w.drew qb (.slice a l.length c) l := h.kept (fun _ _ => rfl)
  have cF := rfirst_any hd (by omega) (first l) rfl
  have hfl := first_le l
  by_cases hf : first l < l.length
  · have HN2 : Hid (max (-1) (min (512 - T) 400) = N) := by
      have := HN.out
      unfold freeN withF room at this
      rw [if_pos hf] at this
      rw [← this, ← hT]
      show _ = _
      congr 2
      omega
    have hne : ((first l : Int) == (l.length : Int)) = false := by rw [beq_eq_false_iff_ne]; omega
    generalize first l = F at *
    clear hT HN hw
    go_enter Try.func31, Try.ntmps31
    go_wp2_with fail
    refine cS.mono ?_
    rintro e w1 ⟨rfl, e1⟩
    rw [e1]
    clear e1 cS
    go_wp2_with fail
    refine wp_region_held_drew (S := (fun W => W.cell? ⟨qb, 0, none⟩ = some (.slice a l.length c))) (by kernel_rfl) (hc) (fun hHeld => ?_)
    refine takeD 0 7 (v := .pointer (some ⟨qb, 0, none⟩)) rfl rfl (by kernel_rfl) (by kernel_rfl) (by kernel_rfl) (fun _ _ _ h => h) (Or.inl ⟨by rfl, by (intro w hSw; (try dsimp only at hSw); go_simp)⟩) hHeld ?_
    simp only [List.setIfInBounds_toArray, List.set_cons_zero, List.set_cons_succ]
    refine takeD 2 9 (v := .pointer (some ⟨qb, 0, none⟩)) rfl rfl (by kernel_rfl) (by kernel_rfl) (by kernel_rfl) (fun _ _ _ h => h) (Or.inl ⟨by rfl, by (intro w hSw; (try dsimp only at hSw); go_simp)⟩) hHeld ?_
    simp only [List.setIfInBounds_toArray, List.set_cons_zero, List.set_cons_succ]
    refine takeD 3 10 (v := .pointer (some ⟨qb, 0, none⟩)) rfl rfl (by kernel_rfl) (by kernel_rfl) (by kernel_rfl) (fun _ _ _ h => h) (Or.inl ⟨by rfl, by (intro w hSw; (try dsimp only at hSw); go_simp)⟩) hHeld ?_
    simp only [List.setIfInBounds_toArray, List.set_cons_zero, List.set_cons_succ]
    refine takeD 4 11 (v := .pointer (some ⟨qb, 0, none⟩)) rfl rfl (by kernel_rfl) (by kernel_rfl) (by kernel_rfl) (fun _ _ _ h => h) (Or.inl ⟨by rfl, by (intro w hSw; (try dsimp only at hSw); go_simp)⟩) hHeld ?_
    simp only [List.setIfInBounds_toArray, List.set_cons_zero, List.set_cons_succ]
    refine takeD 5 12 (v := .slice a l.length c) rfl rfl (by kernel_rfl) (by kernel_rfl) (by kernel_rfl) (fun _ _ _ h => h) (Or.inl ⟨by rfl, by (intro w hSw; (try dsimp only at hSw); go_simp)⟩) hHeld ?_
    simp only [List.setIfInBounds_toArray, List.set_cons_zero, List.set_cons_succ]
    refine takeD 6 13 (v := .int .i64 (l.length : Int)) rfl rfl (by kernel_rfl) (by kernel_rfl) (by kernel_rfl) (fun _ _ _ h => h) (Or.inl ⟨by rfl, by (intro w hSw; (try dsimp only at hSw); go_simp)⟩) hHeld ?_
    simp only [List.setIfInBounds_toArray, List.set_cons_zero, List.set_cons_succ]
    refine wpAnyH_ready (rs := [1]) (by kernel_rfl) (by simp) ?_
    refine AllReadyH.cons rfl (fun K hK => ?_) AllReadyH.nil
    go_simp
    refine (cF).mono ?_
    rintro e w2 ⟨rfl, e2⟩
    subst e2
    go_simp
    refine hK.out _ _ (hHeld) (fun hHeld => ?_)
    clear hK K
    refine takeD 7 14 (v := .bool false) rfl rfl (by kernel_rfl) (by kernel_rfl) (by kernel_rfl) (fun _ _ _ h => h) (Or.inl ⟨by rfl, by (intro w hSw; (try dsimp only at hSw); go_simp)⟩) hHeld ?_
    simp only [List.setIfInBounds_toArray, List.set_cons_zero, List.set_cons_succ]
    refine wpAnyH_done (by kernel_rfl) ?_ _
    go_wp2_with fail
    go_ret
    exact ⟨by rw [← HN2.out]; rfl, below_drew _⟩
  · have HN2 : Hid (max (-1) (min (512 - T - 4) 400) = N) := by
      have := HN.out
      unfold freeN at this
      rw [← this, ← hT]
      show _ = _
      congr 2
      unfold room
      rw [hw]
      unfold withF
      rw [if_neg hf]
      simp
      omega
    have hne : ((first l : Int) == (l.length : Int)) = true := by rw [beq_iff_eq]; omega
    generalize first l = F at *
    clear hT HN hw hf hfl
    go_enter Try.func31, Try.ntmps31
    go_wp2_with fail
    refine cS.mono ?_
    rintro e w1 ⟨rfl, e1⟩
    rw [e1]
    clear e1 cS
    go_wp2_with fail
    refine wp_region_held_drew (S := (fun W => W.cell? ⟨qb, 0, none⟩ = some (.slice a l.length c))) (by kernel_rfl) (hc) (fun hHeld => ?_)
    refine takeD 0 7 (v := .pointer (some ⟨qb, 0, none⟩)) rfl rfl (by kernel_rfl) (by kernel_rfl) (by kernel_rfl) (fun _ _ _ h => h) (Or.inl ⟨by rfl, by (intro w hSw; (try dsimp only at hSw); go_simp)⟩) hHeld ?_
    simp only [List.setIfInBounds_toArray, List.set_cons_zero, List.set_cons_succ]
    refine takeD 2 9 (v := .pointer (some ⟨qb, 0, none⟩)) rfl rfl (by kernel_rfl) (by kernel_rfl) (by kernel_rfl) (fun _ _ _ h => h) (Or.inl ⟨by rfl, by (intro w hSw; (try dsimp only at hSw); go_simp)⟩) hHeld ?_
    simp only [List.setIfInBounds_toArray, List.set_cons_zero, List.set_cons_succ]
    refine takeD 3 10 (v := .pointer (some ⟨qb, 0, none⟩)) rfl rfl (by kernel_rfl) (by kernel_rfl) (by kernel_rfl) (fun _ _ _ h => h) (Or.inl ⟨by rfl, by (intro w hSw; (try dsimp only at hSw); go_simp)⟩) hHeld ?_
    simp only [List.setIfInBounds_toArray, List.set_cons_zero, List.set_cons_succ]
    refine takeD 4 11 (v := .pointer (some ⟨qb, 0, none⟩)) rfl rfl (by kernel_rfl) (by kernel_rfl) (by kernel_rfl) (fun _ _ _ h => h) (Or.inl ⟨by rfl, by (intro w hSw; (try dsimp only at hSw); go_simp)⟩) hHeld ?_
    simp only [List.setIfInBounds_toArray, List.set_cons_zero, List.set_cons_succ]
    refine takeD 5 12 (v := .slice a l.length c) rfl rfl (by kernel_rfl) (by kernel_rfl) (by kernel_rfl) (fun _ _ _ h => h) (Or.inl ⟨by rfl, by (intro w hSw; (try dsimp only at hSw); go_simp)⟩) hHeld ?_
    simp only [List.setIfInBounds_toArray, List.set_cons_zero, List.set_cons_succ]
    refine takeD 6 13 (v := .int .i64 (l.length : Int)) rfl rfl (by kernel_rfl) (by kernel_rfl) (by kernel_rfl) (fun _ _ _ h => h) (Or.inl ⟨by rfl, by (intro w hSw; (try dsimp only at hSw); go_simp)⟩) hHeld ?_
    simp only [List.setIfInBounds_toArray, List.set_cons_zero, List.set_cons_succ]
    refine wpAnyH_ready (rs := [1]) (by kernel_rfl) (by simp) ?_
    refine AllReadyH.cons rfl (fun K hK => ?_) AllReadyH.nil
    go_simp
    refine (cF).mono ?_
    rintro e w2 ⟨rfl, e2⟩
    subst e2
    go_simp
    refine hK.out _ _ (hHeld) (fun hHeld => ?_)
    clear hK K
    refine takeD 7 14 (v := .bool true) rfl rfl (by kernel_rfl) (by kernel_rfl) (by kernel_rfl) (fun _ _ _ h => h) (Or.inl ⟨by rfl, by (intro w hSw; (try dsimp only at hSw); go_simp)⟩) hHeld ?_
    simp only [List.setIfInBounds_toArray, List.set_cons_zero, List.set_cons_succ]
    refine wpAnyH_done (by kernel_rfl) ?_ _
    go_wp2_with fail
    go_ret
    exact ⟨by rw [← HN2.out]; rfl, below_drew _⟩

set_option maxHeartbeats 3200000 in
set_option maxRecDepth 100000 in
theorem rput_any {B : Nat} {w : World} {qb : Nat} {v : Value} {l : List Sl} (h : Pgr B w qb v l) (hF : Fine l) (k : Int) (hk : i64ok k) (row : ByteArray) (hrs : row.size ≤ 1000000) (E : Int) (HE : Hid (putE l k row = E)) :
    Calls Try.prog 28 #[.pointer (some ⟨qb, 0, none⟩), .int .i64 k, .string row] w fun e w' => e = .returned (.int .i64 E) ∧ PTo B w qb v (putN l k row) w' := by
  have hl : l.length ≤ 127 := few hF.room
  obtain ⟨hc0, _⟩ := h.cell
  cases hr : rowAt l k with
  | none =>
    obtain rfl : E = 60 := by rw [← HE.out]; unfold putE; rw [hr]
    have hN : putN l k row = l := by unfold putN; rw [HE.out]; rfl
    have cH := rhas_any h (by omega) k hk false (by rw [hr]; exact rfl)
    have hP := PTo.same h
    rw [hN]
    clear hr hN
    go_enter Try.func28, Try.ntmps28
    go_wp2_with fail
    refine cH.mono ?_
    rintro e w1 ⟨rfl, e1⟩
    rw [e1]
    go_wp2_with fail
    go_ret
    exact ⟨rfl, hP⟩
  | some r =>
    have cH := rhas_any h (by omega) k hk true (by rw [hr]; exact rfl)
    obtain ⟨h0, hx⟩ := rowAt_some hr
    obtain ⟨i, rfl⟩ : ∃ i : Nat, k = (i : Int) := ⟨k.toNat, by omega⟩
    rw [Int.toNat_natCast] at hx
    have h1 : i < l.length := (List.getElem?_eq_some_iff.1 hx).1
    have hr4 : r.size ≤ 400 := hF.rows r (List.mem_of_getElem? hx)
    by_cases h4 : 400 < row.size
    · have h42 : (400 : Int) < (row.size : Int) := by omega
      obtain rfl : E = 2 := by rw [← HE.out]; unfold putE; simp only [hr]; rw [if_pos h4]
      have hN : putN l (i : Int) row = l := by unfold putN; rw [HE.out]; rfl
      have hP := PTo.same h
      rw [hN]
      clear hr hN HE
      go_enter Try.func28, Try.ntmps28
      go_wp2_with fail
      refine cH.mono ?_
      rintro e w1 ⟨rfl, e1⟩
      rw [e1]
      go_wp2_with fail
      go_ret
      exact ⟨rfl, hP⟩
    · have h42 : ¬ (400 : Int) < (row.size : Int) := by omega
      obtain ⟨T, hT⟩ : ∃ T : Int, 4 + 4 * (l.length : Int) + (tot l : Int) = T := ⟨_, rfl⟩
      have hd : Pgr B w.drew qb v l := h.kept (fun _ _ => rfl)
      have cS := rsize_any hd (by omega) hF.rows T hT
      have hTb : 0 ≤ T ∧ T ≤ 512 := by have := hF.room; unfold room at this; omega
      obtain ⟨T1, hT1⟩ : ∃ T1 : Int, T - (r.size : Int) = T1 := ⟨_, rfl⟩
      obtain ⟨T2, hT2⟩ : ∃ T2 : Int, T1 + (row.size : Int) = T2 := ⟨_, rfl⟩
      have hw1 : IntKind.i64.wrap T1 = T1 := by rw [IntKind.wrap_i64]; omega
      have hw2 : IntKind.i64.wrap T2 = T2 := by rw [IntKind.wrap_i64]; omega
      have hrow := h.row
      have hfr : ∀ b c, v = .slice (some ⟨b, 0, none⟩) l.length c → w.drew.cell? ⟨qb, 0, none⟩ = some (.slice (some ⟨b, 0, none⟩) l.length c) := by intro b c e; rw [← e]; exact hc0
      by_cases h5 : 512 < T2
      · obtain rfl : E = 50 := by
          rw [← HE.out]
          unfold putE
          simp only [hr]
          rw [if_neg h4, if_pos (by unfold room; omega)]
        have hN : putN l (i : Int) row = l := by unfold putN; rw [HE.out]; rfl
        have hP : PTo B w qb v l w.drew := ⟨v, hd, (Fr.refl _ _).drew, fun _ e => Or.inl e⟩
        rw [hN]
        obtain ⟨b, c, e, hlc, _, _, _, c0, c1, _⟩ := hrow.cell hx
        have hc := hfr b c e
        subst e
        have c0' : w.drew.cell? ⟨b, i * 2, none⟩ = some (.string r) := c0
        clear hr hN HE hT hfr c0 hrow
        go_enter Try.func28, Try.ntmps28
        go_wp2_with fail
        refine cH.mono ?_
        rintro e w1 ⟨rfl, e1⟩
        rw [e1]
        clear e1 cH
        go_wp2_with fail
        refine wp_region_held_drew (S := (fun W => W.cell? ⟨qb, 0, none⟩ = some (.slice (some ⟨b, 0, none⟩) l.length c) ∧ W.cell? ⟨b, i * 2, none⟩ = some (.string r))) (by kernel_rfl) (⟨hc, c0'⟩) (fun hHeld => ?_)
        refine takeD 0 14 (v := .pointer (some ⟨qb, 0, none⟩)) rfl rfl (by kernel_rfl) (by kernel_rfl) (by kernel_rfl) (fun _ _ _ h => h) (Or.inl ⟨by rfl, by (intro w hSw; (try dsimp only at hSw); go_simp)⟩) hHeld ?_
        simp only [List.setIfInBounds_toArray, List.set_cons_zero, List.set_cons_succ]
        refine takeD 2 16 (v := .pointer (some ⟨qb, 0, none⟩)) rfl rfl (by kernel_rfl) (by kernel_rfl) (by kernel_rfl) (fun _ _ _ h => h) (Or.inl ⟨by rfl, by (intro w hSw; (try dsimp only at hSw); go_simp)⟩) hHeld ?_
        simp only [List.setIfInBounds_toArray, List.set_cons_zero, List.set_cons_succ]
        refine takeD 3 17 (v := .pointer (some ⟨qb, 0, none⟩)) rfl rfl (by kernel_rfl) (by kernel_rfl) (by kernel_rfl) (fun _ _ _ h => h) (Or.inl ⟨by rfl, by (intro w hSw; (try dsimp only at hSw); go_simp)⟩) hHeld ?_
        simp only [List.setIfInBounds_toArray, List.set_cons_zero, List.set_cons_succ]
        refine takeD 4 18 (v := .pointer (some ⟨qb, 0, none⟩)) rfl rfl (by kernel_rfl) (by kernel_rfl) (by kernel_rfl) (fun _ _ _ h => h) (Or.inl ⟨by rfl, by (intro w hSw; (try dsimp only at hSw); go_simp)⟩) hHeld ?_
        simp only [List.setIfInBounds_toArray, List.set_cons_zero, List.set_cons_succ]
        refine takeD 5 19 (v := (.slice (some ⟨b, 0, none⟩) l.length c)) rfl rfl (by kernel_rfl) (by kernel_rfl) (by kernel_rfl) (fun _ _ _ h => h) (Or.inl ⟨by rfl, by (intro w hSw; (try dsimp only at hSw); go_simp)⟩) hHeld ?_
        simp only [List.setIfInBounds_toArray, List.set_cons_zero, List.set_cons_succ]
        refine takeD 6 20 (v := .int .i64 (i : Int)) rfl rfl (by kernel_rfl) (by kernel_rfl) (by kernel_rfl) (fun _ _ _ h => h) (Or.inl ⟨by rfl, by (intro w hSw; (try dsimp only at hSw); go_simp)⟩) hHeld ?_
        simp only [List.setIfInBounds_toArray, List.set_cons_zero, List.set_cons_succ]
        refine takeD 7 21 (v := .pointer (some ⟨b, i * 2, none⟩)) rfl rfl (by kernel_rfl) (by kernel_rfl) (by kernel_rfl) (fun _ _ _ h => h) (Or.inl ⟨by rfl, by (intro w hSw; (try dsimp only at hSw); go_simp)⟩) hHeld ?_
        simp only [List.setIfInBounds_toArray, List.set_cons_zero, List.set_cons_succ]
        refine takeD 8 22 (v := .pointer (some ⟨b, i * 2, none⟩)) rfl rfl (by kernel_rfl) (by kernel_rfl) (by kernel_rfl) (fun _ _ _ h => h) (Or.inl ⟨by rfl, by (intro w hSw; (try dsimp only at hSw); go_simp)⟩) hHeld ?_
        simp only [List.setIfInBounds_toArray, List.set_cons_zero, List.set_cons_succ]
        refine takeD 9 23 (v := .string r) rfl rfl (by kernel_rfl) (by kernel_rfl) (by kernel_rfl) (fun _ _ _ h => h) (Or.inl ⟨by rfl, by (intro w hSw; (try dsimp only at hSw); go_simp)⟩) hHeld ?_
        simp only [List.setIfInBounds_toArray, List.set_cons_zero, List.set_cons_succ]
        refine takeD 10 24 (v := .int .i64 (r.size : Int)) rfl rfl (by kernel_rfl) (by kernel_rfl) (by kernel_rfl) (fun _ _ _ h => h) (Or.inl ⟨by rfl, by (intro w hSw; (try dsimp only at hSw); go_simp)⟩) hHeld ?_
        simp only [List.setIfInBounds_toArray, List.set_cons_zero, List.set_cons_succ]
        refine takeD 12 26 (v := .string row) rfl rfl (by kernel_rfl) (by kernel_rfl) (by kernel_rfl) (fun _ _ _ h => h) (Or.inl ⟨by rfl, by (intro w hSw; (try dsimp only at hSw); go_simp)⟩) hHeld ?_
        simp only [List.setIfInBounds_toArray, List.set_cons_zero, List.set_cons_succ]
        refine takeD 13 27 (v := .int .i64 (row.size : Int)) rfl rfl (by kernel_rfl) (by kernel_rfl) (by kernel_rfl) (fun _ _ _ h => h) (Or.inl ⟨by rfl, by (intro w hSw; (try dsimp only at hSw); go_simp)⟩) hHeld ?_
        simp only [List.setIfInBounds_toArray, List.set_cons_zero, List.set_cons_succ]
        refine wpAnyH_ready (rs := [1]) (by kernel_rfl) (by simp) ?_
        refine AllReadyH.cons rfl (fun K hK => ?_) AllReadyH.nil
        go_simp
        refine (cS).mono ?_
        rintro e w2 ⟨rfl, e2⟩
        subst e2
        go_simp
        refine hK.out _ _ (hHeld) (fun hHeld => ?_)
        clear hK K
        refine takeD 11 25 (v := .int .i64 T1) rfl rfl (by kernel_rfl) (by kernel_rfl) (by kernel_rfl) (fun _ _ _ h => h) (Or.inl ⟨by rfl, by (intro w hSw; (try dsimp only at hSw); go_simp)⟩) hHeld ?_
        simp only [List.setIfInBounds_toArray, List.set_cons_zero, List.set_cons_succ]
        refine takeD 14 28 (v := .int .i64 T2) rfl rfl (by kernel_rfl) (by kernel_rfl) (by kernel_rfl) (fun _ _ _ h => h) (Or.inl ⟨by rfl, by (intro w hSw; (try dsimp only at hSw); go_simp)⟩) hHeld ?_
        simp only [List.setIfInBounds_toArray, List.set_cons_zero, List.set_cons_succ]
        refine takeD 15 29 (v := .bool true) rfl rfl (by kernel_rfl) (by kernel_rfl) (by kernel_rfl) (fun _ _ _ h => h) (Or.inl ⟨by rfl, by (intro w hSw; (try dsimp only at hSw); go_simp)⟩) hHeld ?_
        simp only [List.setIfInBounds_toArray, List.set_cons_zero, List.set_cons_succ]
        refine wpAnyH_done (by kernel_rfl) ?_ _
        go_wp2_with fail
        go_ret
        exact ⟨rfl, hP⟩
      · obtain rfl : E = 0 := by
          rw [← HE.out]
          unfold putE
          simp only [hr]
          rw [if_neg h4, if_neg (by unfold room; omega)]
        have hN : putN l (i : Int) row = l.set i (some row) := by unfold putN; rw [HE.out, if_pos rfl]; rfl
        rw [hN]
        obtain ⟨b, c, e, hlc, _, hB, hbl, c0, c1, f0, f1⟩ := hrow.cell hx
        have hc := hfr b c e
        subst e
        have c0' : w.drew.cell? ⟨b, i * 2, none⟩ = some (.string r) := c0
        have f0' : w.drew.frozen? ⟨b, i * 2, none⟩ = false := f0
        have hrw := hd.row.setA (s := some row) hx rfl
        have f : Fr (fun k => (Value.slice (some ⟨b, 0, none⟩) l.length c).ownBlock = some k) w.drew (w.drew.setCell ⟨b, i * 2, none⟩ (.string row)) := Fr.set (F := fun k => (Value.slice (some ⟨b, 0, none⟩) l.length c).ownBlock = some k) (Fr.refl _ _) (p := ⟨b, i * 2, none⟩) (Or.inl rfl) _
        have hP : PTo B w qb (.slice (some ⟨b, 0, none⟩) l.length c) (l.set i (some row)) (w.drew.setCell ⟨b, i * 2, none⟩ (.string row)) :=
          ⟨_, hd.over hrw f, Fr.set (F := footP qb (.slice (some ⟨b, 0, none⟩) l.length c)) (Fr.refl _ w).drew (p := ⟨b, i * 2, none⟩) (Or.inl (Or.inr rfl)) _, fun _ e => Or.inl e⟩
        clear hr hN HE hT hfr c0 f0 hrow hrw f
        go_enter Try.func28, Try.ntmps28
        go_wp2_with fail
        refine cH.mono ?_
        rintro e w1 ⟨rfl, e1⟩
        rw [e1]
        clear e1 cH
        go_wp2_with fail
        refine wp_region_held_drew (S := (fun W => W.cell? ⟨qb, 0, none⟩ = some (.slice (some ⟨b, 0, none⟩) l.length c) ∧ W.cell? ⟨b, i * 2, none⟩ = some (.string r))) (by kernel_rfl) (⟨hc, c0'⟩) (fun hHeld => ?_)
        refine takeD 0 14 (v := .pointer (some ⟨qb, 0, none⟩)) rfl rfl (by kernel_rfl) (by kernel_rfl) (by kernel_rfl) (fun _ _ _ h => h) (Or.inl ⟨by rfl, by (intro w hSw; (try dsimp only at hSw); go_simp)⟩) hHeld ?_
        simp only [List.setIfInBounds_toArray, List.set_cons_zero, List.set_cons_succ]
        refine takeD 2 16 (v := .pointer (some ⟨qb, 0, none⟩)) rfl rfl (by kernel_rfl) (by kernel_rfl) (by kernel_rfl) (fun _ _ _ h => h) (Or.inl ⟨by rfl, by (intro w hSw; (try dsimp only at hSw); go_simp)⟩) hHeld ?_
        simp only [List.setIfInBounds_toArray, List.set_cons_zero, List.set_cons_succ]
        refine takeD 3 17 (v := .pointer (some ⟨qb, 0, none⟩)) rfl rfl (by kernel_rfl) (by kernel_rfl) (by kernel_rfl) (fun _ _ _ h => h) (Or.inl ⟨by rfl, by (intro w hSw; (try dsimp only at hSw); go_simp)⟩) hHeld ?_
        simp only [List.setIfInBounds_toArray, List.set_cons_zero, List.set_cons_succ]
        refine takeD 4 18 (v := .pointer (some ⟨qb, 0, none⟩)) rfl rfl (by kernel_rfl) (by kernel_rfl) (by kernel_rfl) (fun _ _ _ h => h) (Or.inl ⟨by rfl, by (intro w hSw; (try dsimp only at hSw); go_simp)⟩) hHeld ?_
        simp only [List.setIfInBounds_toArray, List.set_cons_zero, List.set_cons_succ]
        refine takeD 5 19 (v := (.slice (some ⟨b, 0, none⟩) l.length c)) rfl rfl (by kernel_rfl) (by kernel_rfl) (by kernel_rfl) (fun _ _ _ h => h) (Or.inl ⟨by rfl, by (intro w hSw; (try dsimp only at hSw); go_simp)⟩) hHeld ?_
        simp only [List.setIfInBounds_toArray, List.set_cons_zero, List.set_cons_succ]
        refine takeD 6 20 (v := .int .i64 (i : Int)) rfl rfl (by kernel_rfl) (by kernel_rfl) (by kernel_rfl) (fun _ _ _ h => h) (Or.inl ⟨by rfl, by (intro w hSw; (try dsimp only at hSw); go_simp)⟩) hHeld ?_
        simp only [List.setIfInBounds_toArray, List.set_cons_zero, List.set_cons_succ]
        refine takeD 7 21 (v := .pointer (some ⟨b, i * 2, none⟩)) rfl rfl (by kernel_rfl) (by kernel_rfl) (by kernel_rfl) (fun _ _ _ h => h) (Or.inl ⟨by rfl, by (intro w hSw; (try dsimp only at hSw); go_simp)⟩) hHeld ?_
        simp only [List.setIfInBounds_toArray, List.set_cons_zero, List.set_cons_succ]
        refine takeD 8 22 (v := .pointer (some ⟨b, i * 2, none⟩)) rfl rfl (by kernel_rfl) (by kernel_rfl) (by kernel_rfl) (fun _ _ _ h => h) (Or.inl ⟨by rfl, by (intro w hSw; (try dsimp only at hSw); go_simp)⟩) hHeld ?_
        simp only [List.setIfInBounds_toArray, List.set_cons_zero, List.set_cons_succ]
        refine takeD 9 23 (v := .string r) rfl rfl (by kernel_rfl) (by kernel_rfl) (by kernel_rfl) (fun _ _ _ h => h) (Or.inl ⟨by rfl, by (intro w hSw; (try dsimp only at hSw); go_simp)⟩) hHeld ?_
        simp only [List.setIfInBounds_toArray, List.set_cons_zero, List.set_cons_succ]
        refine takeD 10 24 (v := .int .i64 (r.size : Int)) rfl rfl (by kernel_rfl) (by kernel_rfl) (by kernel_rfl) (fun _ _ _ h => h) (Or.inl ⟨by rfl, by (intro w hSw; (try dsimp only at hSw); go_simp)⟩) hHeld ?_
        simp only [List.setIfInBounds_toArray, List.set_cons_zero, List.set_cons_succ]
        refine takeD 12 26 (v := .string row) rfl rfl (by kernel_rfl) (by kernel_rfl) (by kernel_rfl) (fun _ _ _ h => h) (Or.inl ⟨by rfl, by (intro w hSw; (try dsimp only at hSw); go_simp)⟩) hHeld ?_
        simp only [List.setIfInBounds_toArray, List.set_cons_zero, List.set_cons_succ]
        refine takeD 13 27 (v := .int .i64 (row.size : Int)) rfl rfl (by kernel_rfl) (by kernel_rfl) (by kernel_rfl) (fun _ _ _ h => h) (Or.inl ⟨by rfl, by (intro w hSw; (try dsimp only at hSw); go_simp)⟩) hHeld ?_
        simp only [List.setIfInBounds_toArray, List.set_cons_zero, List.set_cons_succ]
        refine wpAnyH_ready (rs := [1]) (by kernel_rfl) (by simp) ?_
        refine AllReadyH.cons rfl (fun K hK => ?_) AllReadyH.nil
        go_simp
        refine (cS).mono ?_
        rintro e w2 ⟨rfl, e2⟩
        subst e2
        go_simp
        refine hK.out _ _ (hHeld) (fun hHeld => ?_)
        clear hK K
        refine takeD 11 25 (v := .int .i64 T1) rfl rfl (by kernel_rfl) (by kernel_rfl) (by kernel_rfl) (fun _ _ _ h => h) (Or.inl ⟨by rfl, by (intro w hSw; (try dsimp only at hSw); go_simp)⟩) hHeld ?_
        simp only [List.setIfInBounds_toArray, List.set_cons_zero, List.set_cons_succ]
        refine takeD 14 28 (v := .int .i64 T2) rfl rfl (by kernel_rfl) (by kernel_rfl) (by kernel_rfl) (fun _ _ _ h => h) (Or.inl ⟨by rfl, by (intro w hSw; (try dsimp only at hSw); go_simp)⟩) hHeld ?_
        simp only [List.setIfInBounds_toArray, List.set_cons_zero, List.set_cons_succ]
        refine takeD 15 29 (v := .bool false) rfl rfl (by kernel_rfl) (by kernel_rfl) (by kernel_rfl) (fun _ _ _ h => h) (Or.inl ⟨by rfl, by (intro w hSw; (try dsimp only at hSw); go_simp)⟩) hHeld ?_
        simp only [List.setIfInBounds_toArray, List.set_cons_zero, List.set_cons_succ]
        refine wpAnyH_done (by kernel_rfl) ?_ _
        go_wp2_with fail
        go_ret
        exact ⟨rfl, hP⟩

end Go.Proofs.Ytfgblmbocchddaa

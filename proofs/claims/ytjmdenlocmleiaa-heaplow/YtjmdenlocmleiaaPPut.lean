/- Put. -/
import Derived.Test.YtjmdenlocmleiaaPFind
namespace Go.Proofs.Ytjmdenlocmleiaa
open Go.RowKit

set_option maxHeartbeats 800000 in
theorem put_err (p row : ByteArray) (k E : Int) (w : World) (hE : E = 11 ∨ E = 60) (c : Calls Try.prog 47 #[.string p, .int .i64 k] w fun e w' => e = .returned (.tuple #[.slice none 0 0, .int .i64 E]) ∧ Below w.heap.size w w') :
    Calls Try.prog 31 #[.string p, .int .i64 k, .string row] w fun e w' => e = .returned (.tuple #[.string ⟨#[]⟩, .int .i64 E]) ∧ Below w.heap.size w w' := by
  have hE2 : (E != 0) = true := by rcases hE with rfl | rfl <;> rfl
  clear hE
  go_enter Try.func31, Try.ntmps31
  go_wp2_with fail
  refine c.mono ?_
  rintro e w1 ⟨rfl, b1⟩
  go_wp2_with fail
  go_ret2
  exact ⟨rfl, b1⟩

/-- What Put tells, where a row is. -/
def putR (l : List Sl) (k : Int) (row : ByteArray) : ByteArray × Int := if putE l k row = 0 then (pg (putL l k row), 0) else (⟨#[]⟩, putE l k row)
theorem tot_mem {l : List Sl} {i : Nat} {s : Sl} (h : l[i]? = some s) : (rowOf s).size ≤ tot l := by
  have := tot_set l i s none h
  have e : (rowOf none).size = 0 := rfl
  omega

set_option maxHeartbeats 3200000 in
set_option maxRecDepth 100000 in
theorem put_row (p : ByteArray) (l : List Sl) (i : Nat) (r row : ByteArray) (w : World) (hp : p.size ≤ 1000000) (h : rd p = some l) (hF : Fine l) (hrs : row.size ≤ 1000000) (hx : l[i]? = some (some r)) (P : ByteArray) (E : Int) (HP : Hid (putR l (i : Int) row = (P, E))) :
    Calls Try.prog 31 #[.string p, .int .i64 (i : Int), .string row] w fun e w' => e = .returned (.tuple #[.string P, .int .i64 E]) ∧ Below w.heap.size w w' := by
  have hl : l.length ≤ 127 := few hF.room
  have c := find_some p l i r w hp h (by omega) hx
  have h1 : i < l.length := (List.getElem?_eq_some_iff.1 hx).1
  have hra : rowAt l (i : Int) = some r := by
    unfold rowAt
    rw [if_pos (by omega), Int.toNat_natCast, hx]
    rfl
  have hr4 : r.size ≤ 400 := hF.rows r (List.mem_of_getElem? hx)
  clear h
  by_cases h4 : 400 < row.size
  · have h42 : (400 : Int) < (row.size : Int) := by omega
    have hE : putE l (i : Int) row = 2 := by unfold putE; simp only [hra]; rw [if_pos h4]
    obtain ⟨rfl, rfl⟩ : P = ⟨#[]⟩ ∧ E = 2 := by
      have := HP.out
      unfold putR at this
      rw [hE, if_neg (by decide)] at this
      cases this
      exact ⟨rfl, rfl⟩
    go_enter Try.func31, Try.ntmps31
    go_wp2_with fail
    refine c.mono ?_
    rintro e w1 ⟨v, rfl, r1, b1⟩
    go_wp2_with fail
    go_ret2
    exact ⟨rfl, b1⟩
  · have h42 : ¬ (400 : Int) < (row.size : Int) := by omega
    obtain ⟨R, hR⟩ : ∃ R, room l = R := ⟨_, rfl⟩
    have HR : Hid (room l = R) := hR
    have hR0 : 0 ≤ R ∧ R ≤ 508 := by have := hF.room; unfold room at *; omega
    obtain ⟨T, hT⟩ : ∃ T, R + (r.size : Int) = T := ⟨_, rfl⟩
    have hTw : IntKind.i64.wrap T = T := by rw [IntKind.wrap_i64]; omega
    by_cases h5 : T < (row.size : Int)
    · have hE : putE l (i : Int) row = 50 := by unfold putE; simp only [hra]; rw [if_neg h4, hR, hT, if_pos h5]
      obtain ⟨rfl, rfl⟩ : P = ⟨#[]⟩ ∧ E = 50 := by
        have := HP.out
        unfold putR at this
        rw [hE, if_neg (by decide)] at this
        cases this
        exact ⟨rfl, rfl⟩
      clear hR HP hE hra
      go_enter Try.func31, Try.ntmps31
      go_wp2_with fail
      refine c.mono ?_
      rintro e w1 ⟨v, rfl, r1, b1⟩
      have r1' := r1
      obtain ⟨b, c', rfl, hc, _, hb, hbl, c0, c1, f0, f1⟩ := r1.cell hx
      have c1' : w1.cell? ⟨b, i * 2 + 1, none⟩ = some (.string r) := c1
      have r1d : Rw 94 cf w1.drew w.heap.size (.slice (some ⟨b, 0, none⟩) l.length c') l := r1'.kept (fun _ _ => rfl)
      have b1d := b1.drew
      clear c1
      go_wp2_with fail
      refine wp_region_held_drew (S := (fun W => W.cell? ⟨b, i * 2 + 1, none⟩ = some (.string r))) (by kernel_rfl) (c1') (fun hHeld => ?_)
      refine takeD 0 24 (v := .string row) rfl rfl (by kernel_rfl) (by kernel_rfl) (by kernel_rfl) (fun _ _ _ h => h) (Or.inl ⟨by rfl, by (intro w hSw; (try dsimp only at hSw); go_simp)⟩) hHeld ?_
      simp only [List.setIfInBounds_toArray, List.set_cons_zero, List.set_cons_succ]
      refine takeD 1 25 (v := .int .i64 (row.size : Int)) rfl rfl (by kernel_rfl) (by kernel_rfl) (by kernel_rfl) (fun _ _ _ h => h) (Or.inl ⟨by rfl, by (intro w hSw; (try dsimp only at hSw); go_simp)⟩) hHeld ?_
      simp only [List.setIfInBounds_toArray, List.set_cons_zero, List.set_cons_succ]
      refine takeD 2 26 (v := .slice (some ⟨b, 0, none⟩) l.length c') rfl rfl (by kernel_rfl) (by kernel_rfl) (by kernel_rfl) (fun _ _ _ h => h) (Or.inl ⟨by rfl, by (intro w hSw; (try dsimp only at hSw); go_simp)⟩) hHeld ?_
      simp only [List.setIfInBounds_toArray, List.set_cons_zero, List.set_cons_succ]
      refine takeD 4 28 (v := .slice (some ⟨b, 0, none⟩) l.length c') rfl rfl (by kernel_rfl) (by kernel_rfl) (by kernel_rfl) (fun _ _ _ h => h) (Or.inl ⟨by rfl, by (intro w hSw; (try dsimp only at hSw); go_simp)⟩) hHeld ?_
      simp only [List.setIfInBounds_toArray, List.set_cons_zero, List.set_cons_succ]
      refine takeD 5 29 (v := .int .i64 (i : Int)) rfl rfl (by kernel_rfl) (by kernel_rfl) (by kernel_rfl) (fun _ _ _ h => h) (Or.inl ⟨by rfl, by (intro w hSw; (try dsimp only at hSw); go_simp)⟩) hHeld ?_
      simp only [List.setIfInBounds_toArray, List.set_cons_zero, List.set_cons_succ]
      refine takeD 6 30 (v := .pointer (some ⟨b, i * 2, none⟩)) rfl rfl (by kernel_rfl) (by kernel_rfl) (by kernel_rfl) (fun _ _ _ h => h) (Or.inl ⟨by rfl, by (intro w hSw; (try dsimp only at hSw); go_simp)⟩) hHeld ?_
      simp only [List.setIfInBounds_toArray, List.set_cons_zero, List.set_cons_succ]
      refine takeD 7 31 (v := .pointer (some ⟨b, i * 2 + 1, none⟩)) rfl rfl (by kernel_rfl) (by kernel_rfl) (by kernel_rfl) (fun _ _ _ h => h) (Or.inl ⟨by rfl, by (intro w hSw; (try dsimp only at hSw); go_simp)⟩) hHeld ?_
      simp only [List.setIfInBounds_toArray, List.set_cons_zero, List.set_cons_succ]
      refine takeD 8 32 (v := .string r) rfl rfl (by kernel_rfl) (by kernel_rfl) (by kernel_rfl) (fun _ _ _ h => h) (Or.inl ⟨by rfl, by (intro w hSw; (try dsimp only at hSw); go_simp)⟩) hHeld ?_
      simp only [List.setIfInBounds_toArray, List.set_cons_zero, List.set_cons_succ]
      refine takeD 9 33 (v := .int .i64 (r.size : Int)) rfl rfl (by kernel_rfl) (by kernel_rfl) (by kernel_rfl) (fun _ _ _ h => h) (Or.inl ⟨by rfl, by (intro w hSw; (try dsimp only at hSw); go_simp)⟩) hHeld ?_
      simp only [List.setIfInBounds_toArray, List.set_cons_zero, List.set_cons_succ]
      refine wpAnyH_ready (rs := [3]) (by kernel_rfl) (by simp) ?_
      refine AllReadyH.cons rfl (fun K hK => ?_) AllReadyH.nil
      go_simp
      refine (room_any _ c' l w.heap.size _ r1d (by omega) hF.rows R HR).mono ?_
      rintro e w2 ⟨rfl, b2⟩
      go_simp
      refine hK.out _ _ ((b2.cell (p := ⟨b, i * 2 + 1, none⟩) hbl).trans c1') (fun hHeld => ?_)
      clear hK K
      refine takeD 10 34 (v := .int .i64 T) rfl rfl (by kernel_rfl) (by kernel_rfl) (by kernel_rfl) (fun _ _ _ h => h) (Or.inl ⟨by rfl, by (intro w hSw; (try dsimp only at hSw); go_simp)⟩) hHeld ?_
      simp only [List.setIfInBounds_toArray, List.set_cons_zero, List.set_cons_succ]
      refine takeD 11 35 (v := .bool true) rfl rfl (by kernel_rfl) (by kernel_rfl) (by kernel_rfl) (fun _ _ _ h => h) (Or.inl ⟨by rfl, by (intro w hSw; (try dsimp only at hSw); go_simp)⟩) hHeld ?_
      simp only [List.setIfInBounds_toArray, List.set_cons_zero, List.set_cons_succ]
      refine takeD 12 23 (v := .bool true) rfl rfl (by kernel_rfl) (by kernel_rfl) (by kernel_rfl) (fun _ _ _ h => h) (Or.inl ⟨by rfl, by (intro w hSw; (try dsimp only at hSw); go_simp)⟩) hHeld ?_
      simp only [List.setIfInBounds_toArray, List.set_cons_zero, List.set_cons_succ]
      refine wpAnyH_done (by kernel_rfl) ?_ _
      go_wp2_with fail
      go_ret2
      exact ⟨rfl, b1d.trans (b2.mono b1d.size)⟩
    · have hE : putE l (i : Int) row = 0 := by unfold putE; simp only [hra]; rw [if_neg h4, hR, hT, if_neg h5]
      have hF2 := put_fine hF (i : Int) row hE
      obtain ⟨HP2, rfl⟩ : Hid (pg (trimL (l.set i (some row))) = P) ∧ E = 0 := by
        have := HP.out
        unfold putR at this
        rw [if_pos hE] at this
        cases this
        refine ⟨?_, rfl⟩
        show _ = _
        rw [trim_set l i row hF.trim]
        rfl
      have hF3 : Fine (trimL (l.set i (some row))) := by rw [trim_set l i row hF.trim]; exact hF2
      clear hR HP hE hra hF2
      go_enter Try.func31, Try.ntmps31
      go_wp2_with fail
      refine c.mono ?_
      rintro e w1 ⟨v, rfl, r1, b1⟩
      have r1' := r1
      obtain ⟨b, c', rfl, hc, _, hb, hbl, c0, c1, f0, f1⟩ := r1.cell hx
      have c1' : w1.cell? ⟨b, i * 2 + 1, none⟩ = some (.string r) := c1
      have r1d : Rw 94 cf w1.drew w.heap.size (.slice (some ⟨b, 0, none⟩) l.length c') l := r1'.kept (fun _ _ => rfl)
      have b1d := b1.drew
      clear c1
      go_wp2_with fail
      refine wp_region_held_drew (S := (fun W => W.cell? ⟨b, i * 2 + 1, none⟩ = some (.string r))) (by kernel_rfl) (c1') (fun hHeld => ?_)
      refine takeD 0 24 (v := .string row) rfl rfl (by kernel_rfl) (by kernel_rfl) (by kernel_rfl) (fun _ _ _ h => h) (Or.inl ⟨by rfl, by (intro w hSw; (try dsimp only at hSw); go_simp)⟩) hHeld ?_
      simp only [List.setIfInBounds_toArray, List.set_cons_zero, List.set_cons_succ]
      refine takeD 1 25 (v := .int .i64 (row.size : Int)) rfl rfl (by kernel_rfl) (by kernel_rfl) (by kernel_rfl) (fun _ _ _ h => h) (Or.inl ⟨by rfl, by (intro w hSw; (try dsimp only at hSw); go_simp)⟩) hHeld ?_
      simp only [List.setIfInBounds_toArray, List.set_cons_zero, List.set_cons_succ]
      refine takeD 2 26 (v := .slice (some ⟨b, 0, none⟩) l.length c') rfl rfl (by kernel_rfl) (by kernel_rfl) (by kernel_rfl) (fun _ _ _ h => h) (Or.inl ⟨by rfl, by (intro w hSw; (try dsimp only at hSw); go_simp)⟩) hHeld ?_
      simp only [List.setIfInBounds_toArray, List.set_cons_zero, List.set_cons_succ]
      refine takeD 4 28 (v := .slice (some ⟨b, 0, none⟩) l.length c') rfl rfl (by kernel_rfl) (by kernel_rfl) (by kernel_rfl) (fun _ _ _ h => h) (Or.inl ⟨by rfl, by (intro w hSw; (try dsimp only at hSw); go_simp)⟩) hHeld ?_
      simp only [List.setIfInBounds_toArray, List.set_cons_zero, List.set_cons_succ]
      refine takeD 5 29 (v := .int .i64 (i : Int)) rfl rfl (by kernel_rfl) (by kernel_rfl) (by kernel_rfl) (fun _ _ _ h => h) (Or.inl ⟨by rfl, by (intro w hSw; (try dsimp only at hSw); go_simp)⟩) hHeld ?_
      simp only [List.setIfInBounds_toArray, List.set_cons_zero, List.set_cons_succ]
      refine takeD 6 30 (v := .pointer (some ⟨b, i * 2, none⟩)) rfl rfl (by kernel_rfl) (by kernel_rfl) (by kernel_rfl) (fun _ _ _ h => h) (Or.inl ⟨by rfl, by (intro w hSw; (try dsimp only at hSw); go_simp)⟩) hHeld ?_
      simp only [List.setIfInBounds_toArray, List.set_cons_zero, List.set_cons_succ]
      refine takeD 7 31 (v := .pointer (some ⟨b, i * 2 + 1, none⟩)) rfl rfl (by kernel_rfl) (by kernel_rfl) (by kernel_rfl) (fun _ _ _ h => h) (Or.inl ⟨by rfl, by (intro w hSw; (try dsimp only at hSw); go_simp)⟩) hHeld ?_
      simp only [List.setIfInBounds_toArray, List.set_cons_zero, List.set_cons_succ]
      refine takeD 8 32 (v := .string r) rfl rfl (by kernel_rfl) (by kernel_rfl) (by kernel_rfl) (fun _ _ _ h => h) (Or.inl ⟨by rfl, by (intro w hSw; (try dsimp only at hSw); go_simp)⟩) hHeld ?_
      simp only [List.setIfInBounds_toArray, List.set_cons_zero, List.set_cons_succ]
      refine takeD 9 33 (v := .int .i64 (r.size : Int)) rfl rfl (by kernel_rfl) (by kernel_rfl) (by kernel_rfl) (fun _ _ _ h => h) (Or.inl ⟨by rfl, by (intro w hSw; (try dsimp only at hSw); go_simp)⟩) hHeld ?_
      simp only [List.setIfInBounds_toArray, List.set_cons_zero, List.set_cons_succ]
      refine wpAnyH_ready (rs := [3]) (by kernel_rfl) (by simp) ?_
      refine AllReadyH.cons rfl (fun K hK => ?_) AllReadyH.nil
      go_simp
      refine (room_any _ c' l w.heap.size _ r1d (by omega) hF.rows R HR).mono ?_
      rintro e w2 ⟨rfl, b2⟩
      go_simp
      refine hK.out _ _ ((b2.cell (p := ⟨b, i * 2 + 1, none⟩) hbl).trans c1') (fun hHeld => ?_)
      clear hK K
      refine takeD 10 34 (v := .int .i64 T) rfl rfl (by kernel_rfl) (by kernel_rfl) (by kernel_rfl) (fun _ _ _ h => h) (Or.inl ⟨by rfl, by (intro w hSw; (try dsimp only at hSw); go_simp)⟩) hHeld ?_
      simp only [List.setIfInBounds_toArray, List.set_cons_zero, List.set_cons_succ]
      refine takeD 11 35 (v := .bool false) rfl rfl (by kernel_rfl) (by kernel_rfl) (by kernel_rfl) (fun _ _ _ h => h) (Or.inl ⟨by rfl, by (intro w hSw; (try dsimp only at hSw); go_simp)⟩) hHeld ?_
      simp only [List.setIfInBounds_toArray, List.set_cons_zero, List.set_cons_succ]
      refine takeD 12 23 (v := .bool false) rfl rfl (by kernel_rfl) (by kernel_rfl) (by kernel_rfl) (fun _ _ _ h => h) (Or.inl ⟨by rfl, by (intro w hSw; (try dsimp only at hSw); go_simp)⟩) hHeld ?_
      simp only [List.setIfInBounds_toArray, List.set_cons_zero, List.set_cons_succ]
      refine wpAnyH_done (by kernel_rfl) ?_ _
      have b02 := b1d.trans (b2.mono b1d.size)
      have r2 := r1d.below' b2
      have r3 := r2.setB (s := some row) hx rfl
      have b3 := (Below.refl w.heap.size w2).setCell (p := ⟨b, i * 2 + 1, none⟩) hb (.string row)
      have d1 : w2.cell? ⟨b, i * 2 + 1, none⟩ = some (.string r) := (b2.cell (p := ⟨b, i * 2 + 1, none⟩) hbl).trans c1'
      have g1 : w2.frozen? ⟨b, i * 2 + 1, none⟩ = false := (b2.frozen (p := ⟨b, i * 2 + 1, none⟩) hbl).trans f1
      have cW := pwrite_any (some ⟨b, 0, none⟩) c' (l.set i (some row)) w.heap.size _ (by rw [List.length_set]; exact r3) (by rw [List.length_set]; omega) (by rw [List.length_set]; exact hc) hF3 P HP2
      rw [List.length_set] at cW
      clear c0 f0 f1 c HP2 hF3 r1d r2 r3 r1'
      go_wp2_with fail
      refine cW.mono ?_
      rintro e w4 ⟨rfl, b4⟩
      go_wp2_with fail
      go_ret2
      exact ⟨rfl, (b02.trans b3).trans (b4.mono (b02.trans b3).size)⟩

end Go.Proofs.Ytjmdenlocmleiaa

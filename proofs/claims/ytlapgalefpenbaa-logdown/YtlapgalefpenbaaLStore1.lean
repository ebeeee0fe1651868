/- What store does inside attempt: flush, the text, the slot, flush, the mark. -/
import Derived.Test.YtlapgalefpenbaaLText
namespace Go.Proofs.Ytlapgalefpenbaa
open Go.RowKit

theorem dthen_nil (x : Option Int × DS) : dthen x (drun · []) = x := by
  obtain ⟨a, b⟩ := x
  cases a <;> rfl

theorem script_eq (A slot area frm : Nat) (t : ByteArray) (D : DS) : drun D (script A slot area frm t) =
    dthen (dstep D none) fun D1 => dthen (drun D1 ((tws (3 + area * A + frm) (pcs t.data.toList)).map some)) fun D2 => dthen (dstep D2 (some (slot, sec (enc area ++ enc (frm + secs t))))) fun D3 => dthen (dstep D3 none) fun D4 => dstep D4 (some (0, sec (enc slot))) := by
  show dthen (dstep D none) (drun · (mid A slot area frm t ++ [some (0, sec (enc slot))])) = _
  congr 1
  funext D1
  unfold mid
  rw [List.map_append, List.append_assoc, List.append_assoc, drun_append]
  congr 1
  funext D2
  show dthen (dstep D2 (some (slot, sec (enc area ++ enc (frm + secs t))))) (fun D3 => dthen (dstep D3 none) (fun D4 => dthen (dstep D4 (some (0, sec (enc slot)))) (drun · []))) = _
  congr 1
  funext D3
  congr 1
  funext D4
  exact dthen_nil _

theorem wrapU (m : Nat) (h : m ≤ 9223372036854775807) : IntKind.u64.wrap (m : Int) = (m : Int) := by
  rw [IntKind.wrap_u64]
  omega

theorem put_ba (n : Nat) (hn : n < 18446744073709551616) (w : World) : Calls Try.prog 57 #[.int .u64 (n : Int)] w fun e w' => e = .returned (.string (ba (enc n))) ∧ Below w.heap.size w w' := put_any n w hn

set_option maxHeartbeats 8000000 in
set_option maxRecDepth 100000 in
theorem store1_any {B b : Nat} {w : World} {lb g gs : Nat} {hv : Value} {D : DS} (pl pa pf pt pn : Nat) (hc : w.cell? ⟨lb, 0, none⟩ = some (.pointer (some ⟨g, 0, none⟩))) (d : Dev B w g gs hv D) (hi : Inv b D) (hB : B ≤ w.heap.size) (hln : ¬ foot g gs hv lb) (h8 : 8 ≤ D.n) (hn : D.n ≤ 8192)
    (A : Nat) (hA : A = areaN D.n) (slot area frm used : Nat) (hsl : slot = 1 ∨ slot = 2) (ha : area ≤ 1) (t : ByteArray) (hu : used = frm + secs t) (hr : used ≤ A) (hb : b + secs t + 4 ≤ 100000)
    (cl : w.cell? ⟨pl, 0, none⟩ = some (.pointer (some ⟨lb, 0, none⟩))) (ca : w.cell? ⟨pa, 0, none⟩ = some (.int .i64 (area : Int))) (cf : w.cell? ⟨pf, 0, none⟩ = some (.int .i64 (frm : Int))) (ct : w.cell? ⟨pt, 0, none⟩ = some (.string t))
    (cn0 : w.cell? ⟨pn, 0, none⟩ = some (.int .i64 (slot : Int))) (cn1 : w.cell? ⟨pn, 1, none⟩ = some (.int .i64 (area : Int))) (cn2 : w.cell? ⟨pn, 2, none⟩ = some (.int .i64 (used : Int)))
    (nl : ¬ foot g gs hv pl) (na : ¬ foot g gs hv pa) (nf : ¬ foot g gs hv pf) (nt : ¬ foot g gs hv pt) (nn : ¬ foot g gs hv pn) :
    Calls Try.prog 54 #[.pointer (some ⟨pl, 0, none⟩), .pointer (some ⟨pa, 0, none⟩), .pointer (some ⟨pf, 0, none⟩), .pointer (some ⟨pt, 0, none⟩), .pointer (some ⟨pn, 0, none⟩)] w fun e w' =>
      e = dexit (drun D (script A slot area frm t)).1 ∧ DTo B w g gs hv (drun D (script A slot area frm t)).2 w' := by
  have hA4 : 2 * A + 4 ≤ D.n ∧ A ≤ 4096 := by rw [hA]; unfold areaN; omega
  have HR := script_eq A slot area frm t D
  generalize drun D (script A slot area frm t) = R at HR ⊢
  obtain ⟨sw, hsw⟩ : ∃ sw, sw = sec (enc area ++ enc used) := ⟨_, rfl⟩
  obtain ⟨mw, hmw⟩ : ∃ mw, mw = sec (enc slot) := ⟨_, rfl⟩
  obtain ⟨ws, hws⟩ : ∃ ws, ws = (tws (3 + area * A + frm) (pcs t.data.toList)).map some := ⟨_, rfl⟩
  have hwl : ws.length = secs t := by rw [hws, List.length_map, tws_length, pcs_secs]
  have hokw : okOps D.n ws := by
    have := mid_okOps A slot area frm t D.n hsl ha (by omega) (by omega)
    intro o ho
    refine this o ?_
    unfold mid
    rw [List.map_append, ← hws]
    exact List.mem_append_left _ (List.mem_append_left _ ho)
  rw [← hws, ← hu, ← hsw, ← hmw] at HR
  have elen : (enc area ++ enc used).length ≤ 20 := by
    have h1 := (enc_len area).2
    have h2 := (enc_len used).2
    rw [List.length_append]
    omega
  have esz : (ba (enc area ++ enc used)).size ≤ 512 := by rw [ba_size]; omega
  have hswb : sw = sec (ba (enc area ++ enc used)).data.toList := by rw [hsw]; simp [ba]
  have msz : (ba (enc slot)).size ≤ 512 := by rw [ba_size]; have := (enc_len slot).2; omega
  have hmwb : mw = sec (ba (enc slot)).data.toList := by rw [hmw]; simp [ba]
  have hsws : sw.size = 512 := by rw [hsw]; exact sec_size _ (by omega)
  have hmws : mw.size = 512 := by rw [hmw]; exact sec_size _ (by have := (enc_len slot).2; omega)
  have hadd := fun w => run_string_add_sum (P := Try.prog) w (ba (enc area)) (ba (enc used)) (by rw [ba_size, ba_size]; rw [List.length_append] at elen; omega)
  rw [show ba (enc area) ++ ba (enc used) = ba (enc area ++ enc used) from ByteArray.mk_append_mk _ _] at hadd
  have cPa := fun w => put_ba area (by omega) w
  have cPu := fun w => put_ba used (by omega) w
  have cPs := fun w => put_ba slot (by omega) w
  have ua := wrapU area (by omega)
  have uu := wrapU used (by omega)
  have us := wrapU slot (by omega)
  have cF := lflush_any hc d hi (by omega)
  have cT := fun b hv1 D1 w hc d hi hB hln h8 hn hA hb => writeText_any (B := B) (b := b) (w := w) (lb := lb) (g := g) (gs := gs) (hv := hv1) (D := D1) hc d hi hB hln h8 hn A hA area frm ha t (by omega) hb
  rw [← hws] at cT
  have hlt := World.block_lt_of_cell? w _ hc
  have ltl := World.block_lt_of_cell? w _ cl
  have lta := World.block_lt_of_cell? w _ ca
  have ltf := World.block_lt_of_cell? w _ cf
  have ltt := World.block_lt_of_cell? w _ ct
  have ltn := World.block_lt_of_cell? w _ cn0
  have H8 : Hid (8 ≤ D.n ∧ D.n ≤ 8192 ∧ A = areaN D.n ∧ used ≤ A ∧ b + secs t + 4 ≤ 100000 ∧ slot < D.n) := ⟨h8, hn, hA, hr, hb, by omega⟩
  clear hA hr hb hu hsw hmw hws elen hsl
  generalize hE1 : ba (enc area ++ enc used) = Y at *
  generalize ba (enc slot) = Ys at *
  generalize ba (enc area) = Ya at *
  generalize ba (enc used) = Yu at *
  clear hE1
  have HY : Hid (sw = sec Y.data.toList) := hswb
  have HM : Hid (mw = sec Ys.data.toList) := hmwb
  have HRR : Hid (R = dthen (dstep D none) fun D1 => dthen (drun D1 ws) fun D2 => dthen (dstep D2 (some (slot, sw))) fun D3 => dthen (dstep D3 none) fun D4 => dstep D4 (some (0, mw))) := HR
  clear hswb hmwb HR
  go_enter Try.func54, Try.ntmps54
  go_wp2_with fail
  cases e1 : (dstep D none).1 with
  | some e =>
    have HF : Hid (R = dstep D none) := by show R = _; rw [HRR.out, dthen_no _ e1]
    have HE : Hid (R.1 = some e) := by show R.1 = _; rw [HF.out, e1]
    rw [e1, ← HF.out, show dexit (some e) = .panicked (pan e) from rfl] at cF
    clear e1
    refine cF.mono ?_
    rintro x w1 ⟨rfl, z1⟩
    go_wp2_with fail
    exact ⟨rfl, by rw [HE.out]; rfl, z1⟩
  | none =>
  obtain ⟨i1, n1⟩ := hi.st none (fun q hq => by cases hq)
  have HR1 : Hid (R = dthen (drun (dstep D none).2 ws) fun D2 => dthen (dstep D2 (some (slot, sw))) fun D3 => dthen (dstep D3 none) fun D4 => dstep D4 (some (0, mw))) := by show R = _; rw [HRR.out, dthen_ok _ e1]
  rw [e1, show dexit none = .returned (.tuple #[]) from rfl] at cF
  generalize (dstep D none).2 = D1 at cF i1 n1 HR1
  clear e1 HRR
  refine cF.mono ?_
  rintro x w1 ⟨rfl, z1⟩
  have k1 := z1.cell hc hln
  have l1 := z1.cell cl nl
  have a1 := z1.cell ca na
  have f1 := z1.cell cf nf
  have t1 := z1.cell ct nt
  obtain ⟨hv1, d1, fr1, g1⟩ := z1
  have cTT := cT (b + 1) hv1 D1 w1 k1 d1 i1 (Nat.le_trans hB fr1.size) (not_foot g1 hlt hln) (by rw [n1]; exact H8.out.1) (by rw [n1]; exact H8.out.2.1) (by rw [n1]; exact H8.out.2.2.1) (by have := H8.out.2.2.2.2.1; omega)
  have hokw1 : okOps D1.n ws := by rw [n1]; exact hokw
  obtain ⟨i2, n2⟩ := i1.run ws hokw1
  rw [hwl] at i2
  clear cT cF k1 hokw hokw1
  go_wp2_with fail
  cases e2 : (drun D1 ws).1 with
  | some e =>
    have HF : Hid (R = drun D1 ws) := by show R = _; rw [HR1.out, dthen_no _ e2]
    have HE : Hid (R.1 = some e) := by show R.1 = _; rw [HF.out, e2]
    rw [e2, ← HF.out, show dexit (some e) = .panicked (pan e) from rfl] at cTT
    clear e2
    refine cTT.mono ?_
    rintro x w2 ⟨rfl, z2⟩
    go_wp2_with fail
    exact ⟨rfl, by rw [HE.out]; rfl, DTo.after fr1 g1 z2⟩
  | none =>
  have HR2 : Hid (R = dthen (dstep (drun D1 ws).2 (some (slot, sw))) fun D3 => dthen (dstep D3 none) fun D4 => dstep D4 (some (0, mw))) := by show R = _; rw [HR1.out, dthen_ok _ e2]
  rw [e2, show dexit none = .returned (.tuple #[]) from rfl] at cTT
  generalize (drun D1 ws).2 = D2 at cTT i2 n2 HR2
  clear e2 HR1
  refine cTT.mono ?_
  rintro x w2 ⟨rfl, z2⟩
  have z2' := DTo.after fr1 g1 z2
  have k2 := z2'.cell hc hln
  have l2 := z2'.cell cl nl
  have s20 := z2'.cell cn0 nn
  have s21 := z2'.cell cn1 nn
  have s22 := z2'.cell cn2 nn
  obtain ⟨hv2, d2, fr2, g2⟩ := z2'
  clear z2 cTT l1 a1 f1 t1 d1 fr1 g1
  have hD2 := below_drew w2
  have lt2 : ∀ {k : Nat}, k < w.heap.size → k < w2.heap.size := fun h => Nat.lt_of_lt_of_le h fr2.size
  have lk2 := lt2 hlt
  have ll2 := lt2 ltl
  have ln2 := lt2 ltn
  have hn2 : D2.n = D.n := n2.trans n1
  have cW2 := fun w d hc => lwrite_any (B := B) (b := b + 1 + secs t) (w := w) (lb := lb) (g := g) (gs := gs) (hv := hv2) (D := D2) hc d i2 (by have := H8.out.2.2.2.2.1; omega)
  have hB2 : B ≤ w2.heap.size := Nat.le_trans hB fr2.size
  have hln2 := not_foot g2 hlt hln
  have hsn : slot < D2.n := by rw [hn2]; exact H8.out.2.2.2.2.2
  obtain ⟨i3, n3⟩ := i2.st (some (slot, sw)) (fun q hq => by cases hq; exact ⟨hsn, hsws⟩)
  clear lt2
  go_wp2_with fail
  refine wp_region_held_drew (S := (fun W => W.cell? ⟨lb, 0, none⟩ = some (.pointer (some ⟨g, 0, none⟩)) ∧ W.cell? ⟨pl, 0, none⟩ = some (.pointer (some ⟨lb, 0, none⟩)) ∧ W.cell? ⟨pn, 0, none⟩ = some (.int .i64 (slot : Int)) ∧ W.cell? ⟨pn, 1, none⟩ = some (.int .i64 (area : Int)) ∧ W.cell? ⟨pn, 2, none⟩ = some (.int .i64 (used : Int)))) (by kernel_rfl) (⟨k2, l2, s20, s21, s22⟩) (fun hHeld => ?_)
  refine takeD 0 12 (v := .pointer (some ⟨lb, 0, none⟩)) rfl rfl (by kernel_rfl) (by kernel_rfl) (by kernel_rfl) (fun _ _ _ h => h) (Or.inl ⟨by rfl, by (intro w hSw; (try dsimp only at hSw); obtain ⟨q0, q1, q2, q3, q4⟩ := hSw; go_simp)⟩) hHeld ?_
  simp only [List.setIfInBounds_toArray, List.set_cons_zero, List.set_cons_succ]
  refine takeD 1 13 (v := .pointer (some ⟨pn, 0, none⟩)) rfl rfl (by kernel_rfl) (by kernel_rfl) (by kernel_rfl) (fun _ _ _ h => h) (Or.inl ⟨by rfl, by (intro w hSw; (try dsimp only at hSw); obtain ⟨q0, q1, q2, q3, q4⟩ := hSw; go_simp)⟩) hHeld ?_
  simp only [List.setIfInBounds_toArray, List.set_cons_zero, List.set_cons_succ]
  refine takeD 2 14 (v := .int .i64 (slot : Int)) rfl rfl (by kernel_rfl) (by kernel_rfl) (by kernel_rfl) (fun _ _ _ h => h) (Or.inl ⟨by rfl, by (intro w hSw; (try dsimp only at hSw); obtain ⟨q0, q1, q2, q3, q4⟩ := hSw; go_simp)⟩) hHeld ?_
  simp only [List.setIfInBounds_toArray, List.set_cons_zero, List.set_cons_succ]
  refine takeD 3 15 (v := .pointer (some ⟨pn, 1, none⟩)) rfl rfl (by kernel_rfl) (by kernel_rfl) (by kernel_rfl) (fun _ _ _ h => h) (Or.inl ⟨by rfl, by (intro w hSw; (try dsimp only at hSw); obtain ⟨q0, q1, q2, q3, q4⟩ := hSw; go_simp)⟩) hHeld ?_
  simp only [List.setIfInBounds_toArray, List.set_cons_zero, List.set_cons_succ]
  refine takeD 4 16 (v := .int .i64 (area : Int)) rfl rfl (by kernel_rfl) (by kernel_rfl) (by kernel_rfl) (fun _ _ _ h => h) (Or.inl ⟨by rfl, by (intro w hSw; (try dsimp only at hSw); obtain ⟨q0, q1, q2, q3, q4⟩ := hSw; go_simp)⟩) hHeld ?_
  simp only [List.setIfInBounds_toArray, List.set_cons_zero, List.set_cons_succ]
  refine takeD 5 17 (v := .int .u64 (area : Int)) rfl rfl (by kernel_rfl) (by kernel_rfl) (by kernel_rfl) (fun _ _ _ h => h) (Or.inl ⟨by rfl, by (intro w hSw; (try dsimp only at hSw); obtain ⟨q0, q1, q2, q3, q4⟩ := hSw; go_simp)⟩) hHeld ?_
  simp only [List.setIfInBounds_toArray, List.set_cons_zero, List.set_cons_succ]
  refine takeD 7 19 (v := .pointer (some ⟨pn, 2, none⟩)) rfl rfl (by kernel_rfl) (by kernel_rfl) (by kernel_rfl) (fun _ _ _ h => h) (Or.inl ⟨by rfl, by (intro w hSw; (try dsimp only at hSw); obtain ⟨q0, q1, q2, q3, q4⟩ := hSw; go_simp)⟩) hHeld ?_
  simp only [List.setIfInBounds_toArray, List.set_cons_zero, List.set_cons_succ]
  refine takeD 8 20 (v := .int .i64 (used : Int)) rfl rfl (by kernel_rfl) (by kernel_rfl) (by kernel_rfl) (fun _ _ _ h => h) (Or.inl ⟨by rfl, by (intro w hSw; (try dsimp only at hSw); obtain ⟨q0, q1, q2, q3, q4⟩ := hSw; go_simp)⟩) hHeld ?_
  simp only [List.setIfInBounds_toArray, List.set_cons_zero, List.set_cons_succ]
  refine takeD 9 21 (v := .int .u64 (used : Int)) rfl rfl (by kernel_rfl) (by kernel_rfl) (by kernel_rfl) (fun _ _ _ h => h) (Or.inl ⟨by rfl, by (intro w hSw; (try dsimp only at hSw); obtain ⟨q0, q1, q2, q3, q4⟩ := hSw; go_simp)⟩) hHeld ?_
  simp only [List.setIfInBounds_toArray, List.set_cons_zero, List.set_cons_succ]
  refine wpAnyH_ready (rs := [6]) (by kernel_rfl) (by simp) ?_
  refine AllReadyH.cons rfl (fun K hK => ?_) AllReadyH.nil
  go_simp
  refine (cPa _).mono ?_
  rintro x wA ⟨rfl, bA⟩
  have hbA := below2 hD2 bA
  go_simp
  refine hK.out _ _ (⟨(hbA.cell (p := ⟨lb, 0, none⟩) lk2).trans k2, (hbA.cell (p := ⟨pl, 0, none⟩) ll2).trans l2, (hbA.cell (p := ⟨pn, 0, none⟩) ln2).trans s20, (hbA.cell (p := ⟨pn, 1, none⟩) ln2).trans s21, (hbA.cell (p := ⟨pn, 2, none⟩) ln2).trans s22⟩) (fun hHeld => ?_)
  clear hK K
  refine wpAnyH_ready (rs := [10]) (by kernel_rfl) (by simp) ?_
  refine AllReadyH.cons rfl (fun K hK => ?_) AllReadyH.nil
  go_simp
  refine (cPu _).mono ?_
  rintro x wU ⟨rfl, bU⟩
  have hbU := below2 hbA bU
  go_simp
  refine hK.out _ _ (⟨(hbU.cell (p := ⟨lb, 0, none⟩) lk2).trans k2, (hbU.cell (p := ⟨pl, 0, none⟩) ll2).trans l2, (hbU.cell (p := ⟨pn, 0, none⟩) ln2).trans s20, (hbU.cell (p := ⟨pn, 1, none⟩) ln2).trans s21, (hbU.cell (p := ⟨pn, 2, none⟩) ln2).trans s22⟩) (fun hHeld => ?_)
  clear hK K
  refine takeD 11 23 (v := .string Y) rfl rfl (by kernel_rfl) (by kernel_rfl) (by kernel_rfl) (fun _ _ _ h => h) (Or.inl ⟨by rfl, by (intro w hSw; (try dsimp only at hSw); obtain ⟨q0, q1, q2, q3, q4⟩ := hSw; go_simp)⟩) hHeld ?_
  simp only [List.setIfInBounds_toArray, List.set_cons_zero, List.set_cons_succ]
  have cWW := cW2 _ (d2.below hbU) hHeld.1 (Nat.le_trans hB2 hbU.size) hln2 slot hsn Y esz sw HY.out
  cases e3 : (dstep D2 (some (slot, sw))).1 with
  | some e =>
    have HF : Hid (R = dstep D2 (some (slot, sw))) := by show R = _; rw [HR2.out, dthen_no _ e3]
    have HE : Hid (Ending.panicked (pan e) = dexit R.1) := by show _ = dexit R.1; rw [HF.out, e3]; rfl
    rw [e3, ← HF.out, show dexit (some e) = .panicked (pan e) from rfl] at cWW
    clear e3
    refine wpAnyH_ready (rs := [12]) (by kernel_rfl) (by simp) ?_
    refine AllReadyH.cons rfl (fun K hK => ?_) AllReadyH.nil
    go_simp
    refine (cWW).mono ?_
    rintro x w3 ⟨rfl, z3⟩
    exact ⟨rfl, HE.out, DTo.after fr2 g2 (z3.pre hbU)⟩
  | none =>
  have HR3 : Hid (R = dthen (dstep (dstep D2 (some (slot, sw))).2 none) fun D4 => dstep D4 (some (0, mw))) := by show R = _; rw [HR2.out, dthen_ok _ e3]
  rw [e3, show dexit none = .returned (.tuple #[]) from rfl] at cWW
  generalize (dstep D2 (some (slot, sw))).2 = D3 at cWW i3 n3 HR3
  clear e3 HR2
  refine wpAnyH_ready (rs := [12]) (by kernel_rfl) (by simp) ?_
  refine AllReadyH.cons rfl (fun K hK => ?_) AllReadyH.nil
  go_simp
  refine (cWW).mono ?_
  rintro x w3 ⟨rfl, z3⟩
  go_simp
  refine hK.out _ _ (⟨z3.cell hHeld.1 hln2, z3.cell hHeld.2.1 (not_foot g2 ltl nl), z3.cell hHeld.2.2.1 (not_foot g2 ltn nn), z3.cell hHeld.2.2.2.1 (not_foot g2 ltn nn), z3.cell hHeld.2.2.2.2 (not_foot g2 ltn nn)⟩) (fun hHeld => ?_)
  clear hK K
  refine wpAnyH_done (by kernel_rfl) ?_ _
  obtain ⟨k3, l3, s30, _, _⟩ := hHeld
  obtain ⟨hv3, d3, fr3, g3⟩ := DTo.after fr2 g2 (z3.pre hbU)
  clear cWW cW2 z3 hbU hbA bA bU d2 k2 l2 s20 s21 s22 hD2
  have cF3 := lflush_any k3 d3 i3 (by have := H8.out.2.2.2.2.1; omega)
  obtain ⟨i4, n4⟩ := i3.st none (fun q hq => by cases hq)
  go_wp2_with fail
  cases e4 : (dstep D3 none).1 with
  | some e =>
    have HF : Hid (R = dstep D3 none) := by show R = _; rw [HR3.out, dthen_no _ e4]
    have HE : Hid (R.1 = some e) := by show R.1 = _; rw [HF.out, e4]
    rw [e4, ← HF.out, show dexit (some e) = .panicked (pan e) from rfl] at cF3
    clear e4
    refine cF3.mono ?_
    rintro x w4 ⟨rfl, z4⟩
    go_wp2_with fail
    exact ⟨rfl, by rw [HE.out]; rfl, DTo.after fr3 g3 z4⟩
  | none =>
  have HR4 : Hid (R = dstep (dstep D3 none).2 (some (0, mw))) := by show R = _; rw [HR3.out, dthen_ok _ e4]
  rw [e4, show dexit none = .returned (.tuple #[]) from rfl] at cF3
  generalize (dstep D3 none).2 = D4 at cF3 i4 n4 HR4
  clear e4 HR3
  refine cF3.mono ?_
  rintro x w4 ⟨rfl, z4⟩
  have z4' := DTo.after fr3 g3 z4
  have k4 := z4'.cell hc hln
  have l4 := z4'.cell cl nl
  have s40 := z4'.cell cn0 nn
  obtain ⟨hv4, d4, fr4, g4⟩ := z4'
  clear z4 cF3 d3 fr3 g3 k3 l3 s30
  have hD4 := below_drew w4
  have lk4 := Nat.lt_of_lt_of_le hlt fr4.size
  have ll4 := Nat.lt_of_lt_of_le ltl fr4.size
  have ln4 := Nat.lt_of_lt_of_le ltn fr4.size
  have cW4 := fun w d hc => lwrite_any (B := B) (b := b + 1 + secs t + 1 + 1) (w := w) (lb := lb) (g := g) (gs := gs) (hv := hv4) (D := D4) hc d i4 (by have := H8.out.2.2.2.2.1; omega)
  have hB4 : B ≤ w4.heap.size := Nat.le_trans hB fr4.size
  have hln4 := not_foot g4 hlt hln
  have h0n : 0 < D4.n := by have := H8.out.1; omega
  go_wp2_with fail
  refine wp_region_held_drew (S := (fun W => W.cell? ⟨lb, 0, none⟩ = some (.pointer (some ⟨g, 0, none⟩)) ∧ W.cell? ⟨pl, 0, none⟩ = some (.pointer (some ⟨lb, 0, none⟩)) ∧ W.cell? ⟨pn, 0, none⟩ = some (.int .i64 (slot : Int)))) (by kernel_rfl) (⟨k4, l4, s40⟩) (fun hHeld => ?_)
  refine takeD 0 27 (v := .pointer (some ⟨lb, 0, none⟩)) rfl rfl (by kernel_rfl) (by kernel_rfl) (by kernel_rfl) (fun _ _ _ h => h) (Or.inl ⟨by rfl, by (intro w hSw; (try dsimp only at hSw); obtain ⟨q0, q1, q2⟩ := hSw; go_simp)⟩) hHeld ?_
  simp only [List.setIfInBounds_toArray, List.set_cons_zero, List.set_cons_succ]
  refine takeD 1 28 (v := .pointer (some ⟨pn, 0, none⟩)) rfl rfl (by kernel_rfl) (by kernel_rfl) (by kernel_rfl) (fun _ _ _ h => h) (Or.inl ⟨by rfl, by (intro w hSw; (try dsimp only at hSw); obtain ⟨q0, q1, q2⟩ := hSw; go_simp)⟩) hHeld ?_
  simp only [List.setIfInBounds_toArray, List.set_cons_zero, List.set_cons_succ]
  refine takeD 2 29 (v := .int .i64 (slot : Int)) rfl rfl (by kernel_rfl) (by kernel_rfl) (by kernel_rfl) (fun _ _ _ h => h) (Or.inl ⟨by rfl, by (intro w hSw; (try dsimp only at hSw); obtain ⟨q0, q1, q2⟩ := hSw; go_simp)⟩) hHeld ?_
  simp only [List.setIfInBounds_toArray, List.set_cons_zero, List.set_cons_succ]
  refine takeD 3 30 (v := .int .u64 (slot : Int)) rfl rfl (by kernel_rfl) (by kernel_rfl) (by kernel_rfl) (fun _ _ _ h => h) (Or.inl ⟨by rfl, by (intro w hSw; (try dsimp only at hSw); obtain ⟨q0, q1, q2⟩ := hSw; go_simp)⟩) hHeld ?_
  simp only [List.setIfInBounds_toArray, List.set_cons_zero, List.set_cons_succ]
  refine wpAnyH_ready (rs := [4]) (by kernel_rfl) (by simp) ?_
  refine AllReadyH.cons rfl (fun K hK => ?_) AllReadyH.nil
  go_simp
  refine (cPs _).mono ?_
  rintro x wS ⟨rfl, bS⟩
  have hbS := below2 hD4 bS
  go_simp
  refine hK.out _ _ (⟨(hbS.cell (p := ⟨lb, 0, none⟩) lk4).trans k4, (hbS.cell (p := ⟨pl, 0, none⟩) ll4).trans l4, (hbS.cell (p := ⟨pn, 0, none⟩) ln4).trans s40⟩) (fun hHeld => ?_)
  clear hK K
  have cWW := cW4 _ (d4.below hbS) hHeld.1 (Nat.le_trans hB4 hbS.size) hln4 0 h0n Ys msz mw HM.out
  rw [← HR4.out] at cWW
  cases e5 : R.1 with
  | some e =>
    have HE : Hid (Ending.panicked (pan e) = dexit R.1) := by show _ = dexit R.1; rw [e5]; rfl
    rw [e5, show dexit (some e) = .panicked (pan e) from rfl] at cWW
    clear e5
    refine wpAnyH_ready (rs := [5]) (by kernel_rfl) (by simp) ?_
    refine AllReadyH.cons rfl (fun K hK => ?_) AllReadyH.nil
    go_simp
    refine (cWW).mono ?_
    rintro x w5 ⟨rfl, z5⟩
    exact ⟨rfl, HE.out, DTo.after fr4 g4 (z5.pre hbS)⟩
  | none =>
    rw [e5, show dexit none = .returned (.tuple #[]) from rfl] at cWW
    have HE : Hid (Ending.returned (.tuple #[]) = dexit R.1) := by show _ = dexit R.1; rw [e5]; rfl
    clear e5
    refine wpAnyH_ready (rs := [5]) (by kernel_rfl) (by simp) ?_
    refine AllReadyH.cons rfl (fun K hK => ?_) AllReadyH.nil
    go_simp
    refine (cWW).mono ?_
    rintro x w5 ⟨rfl, z5⟩
    go_simp
    refine hK.out _ _ (⟨z5.cell hHeld.1 hln4, z5.cell hHeld.2.1 (not_foot g4 ltl nl), z5.cell hHeld.2.2 (not_foot g4 ltn nn)⟩) (fun hHeld => ?_)
    clear hK K
    refine wpAnyH_done (by kernel_rfl) ?_ _
    go_wp2_with fail
    go_end0
    exact ⟨HE.out, DTo.after fr4 g4 (z5.pre hbS)⟩

end Go.Proofs.Ytlapgalefpenbaa

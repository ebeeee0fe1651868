/- Layer 10: two kids of a node, joined. -/
import Derived.Test.YtkfoddblgdmabaaTrApp
namespace Go.Proofs.Ytkfoddblgdmabaa.tr
open Go.RowKit

theorem below_drewN (w : World) (q : Nat) : Below w.heap.size w (w.drewN q) := by
  have h : ∀ q, (w.drewN q).heap = w.heap ∧ (w.drewN q).os = w.os ∧ (w.drewN q).tape = w.tape ∧ (w.drewN q).output = w.output := fun q => ⟨rfl, rfl, rfl, rfl⟩
  obtain ⟨h1, h2, h3, h4⟩ := h q
  exact ⟨h2, h3, h4, by rw [h1]; exact Nat.le_refl _, fun k _ => by rw [h1]⟩

section
variable {w : World} {B : Nat} {M : Mp} {p l r : Nat} {n nl nr : Nr}

set_option maxHeartbeats 3200000 in
set_option maxRecDepth 100000 in
theorem join_any (m : Mm w B M) (hB : B ≤ w.heap.size) (hn : M p = some n) (hnl : M l = some nl) (hnr : M r = some nr) (hlp : l ≠ p) (hlr : l ≠ r) {i : Nat} {x : Ent} (hx : n.es[i]? = some x) (hkl : n.ks[i]? = some l) (hkr : n.ks[i + 1]? = some r) (b1 : n.es.length ≤ 30000) (b2 : n.ks.length ≤ 30000) (b3 : nl.es.length ≤ 30000) (b4 : nr.es.length ≤ 30000) (b5 : nl.ks.length ≤ 30000) (b6 : nr.ks.length ≤ 30000) :
    Calls Try.prog 63 #[.pointer (some ⟨p, 0, none⟩), .int .i64 (i : Int)] w fun e w' => e = .returned (.tuple #[]) ∧ ∃ nj np, nj.es = nl.es ++ x :: nr.es ∧ nj.ks = nl.ks ++ nr.ks ∧ np.es = n.es.take i ++ n.es.drop (i + 1) ∧ np.ks = n.ks.take (i + 1) ++ n.ks.drop (i + 2) ∧ Mm w' B ((M.put l nj).put p np) ∧ To w M w' ((M.put l nj).put p np) := by
  obtain ⟨rb, rc, e1, hlc, hcm, hrb, d0, d1, _, _⟩ := m.ent hn hx
  obtain ⟨kb, kc, e2, hkc, hkm, hkb, k0⟩ := m.kid hn hkl
  obtain ⟨kb', kc', e2', _, _, _, k1⟩ := m.kid hn hkr
  rw [e2] at e2'
  cases e2'
  have hil : i < n.es.length := (List.getElem?_eq_some_iff.1 hx).1
  have hkl2 : i + 1 < n.ks.length := (List.getElem?_eq_some_iff.1 hkr).1
  have hil2 : (i : Int) < (n.ks.length : Int) := by omega
  have hil3 : (i : Int) + 1 < (n.ks.length : Int) := by omega
  have hi4 : (i : Int) < (n.es.length : Int) := by omega
  have hkm' := hkm
  have hcm' := hcm
  unfold maxLen at hkm' hcm'
  obtain ⟨c0, c1, _, _⟩ := ncell (m.top p n hn).1
  rw [e1] at c0
  rw [e2] at c1
  have hwr : IntKind.i64.wrap ((i : Int) + 1) = (i : Int) + 1 := by rw [IntKind.wrap_i64]; omega
  have HM : Hid (Mm w B M) := m
  have HBw : Hid (B ≤ w.heap.size) := hB
  have HE1 : Hid (n.ev = .slice (some ⟨rb, 0, none⟩) n.es.length rc) := e1
  have HE2 : Hid (n.kv = .slice (some ⟨kb, 0, none⟩) n.ks.length kc) := e2
  have HT0 : Hid (∀ q, To w M (w.drewN q) M) := fun q => To.of_below (below_drewN w q)
  have HD : Hid (∀ q, Mm (w.drewN q) B M) := fun q => m.below (below_drewN w q)
  clear m hB e1 e2
  go_enter Try.func63, Try.ntmps63
  go_wp2_with fail
  go_quiet (fail)
  have hT0 := HT0.out nq
  have m1 := HD.out nq
  clear c0 c1 d0 d1 k0 k1 HD HT0
  generalize w.drewN nq = W1 at *
  have HT1 : Hid (To w M W1 M) := hT0
  have HM1 : Hid (Mm W1 B M) := m1
  have HB1 : Hid (B ≤ W1.heap.size) := Nat.le_trans HBw.out hT0.fr.size
  obtain ⟨rb', rc', e1', _, _, _, g0, g1, _, _⟩ := m1.ent hn hx
  rw [HE1.out] at e1'
  cases e1'
  have hnel : ∀ k, nl.ev.ownBlock = some k → k ≠ p ∧ k ≠ r ∧ n.ev.ownBlock ≠ some k := fun k e => ⟨(m1.evK hnl hn e).2, (m1.evK hnl hnr e).2, fun e2 => hlp (m1.apE _ _ _ _ _ hnl hn e e2)⟩
  have CE : Hid (∀ U, Fr (fun k => nl.ev.ownBlock = some k) W1 U → U.cell? ⟨l, 0, none⟩ = some nl.ev ∧ U.cell? ⟨r, 0, none⟩ = some nr.ev ∧ U.cell? ⟨p, 0, none⟩ = some (.slice (some ⟨rb, 0, none⟩) n.es.length rc) ∧ U.cell? ⟨rb, i * 2, none⟩ = some (.string x.key) ∧ U.cell? ⟨rb, i * 2 + 1, none⟩ = some (.int .i64 x.n)) := fun U f => by
    have q1 := ncell (HM1.out.top2 hnl f)
    have q2 := ncell ((f.block r (HM1.out.lt ⟨r, nr, hnr, Or.inl rfl⟩).2 (fun e => (hnel r e).2.1 rfl)).trans (HM1.out.top r nr hnr).1)
    have q3 := ncell ((f.block p (HM1.out.lt ⟨p, n, hn, Or.inl rfl⟩).2 (fun e => (hnel p e).1 rfl)).trans (HM1.out.top p n hn).1)
    have q4 := f.row (HM1.out.ents p n hn) (fun k e1 e2 => (hnel k e2).2.2 e1)
    obtain ⟨rb2, rc2, e3, _, _, _, q5⟩ := q4.cell gE_len hx
    rw [HE1.out] at e3
    cases e3
    exact ⟨q1.1, q2.1, by rw [← HE1.out]; exact q3.1, by simpa using (q5 0 _ rfl).1, (q5 1 _ rfl).1⟩
  have HTop : Hid (∀ U, Fr (fun k => nl.ev.ownBlock = some k) W1 U → U.heap[l]? = some (nobj nl.ev nl.kv)) := fun U f => HM1.out.top2 hnl f
  have HRr : Hid (∀ U, Fr (fun k => nl.ev.ownBlock = some k) W1 U → RowE U B nr.ev nr.es) := fun U f => f.row (HM1.out.ents r nr hnr) (fun k e1 e2 => hlr (HM1.out.apE _ _ _ _ _ hnl hnr e2 e1))
  have hS0 : Fr (fun k => nl.ev.ownBlock = some k) W1 W1.drew := (Fr.refl _ _).drew
  have hrowl : RowE W1 B nl.ev nl.es := m1.ents l nl hnl
  clear m1 hT0 g0 g1
  go_wp2_with fail
  refine anyL_begin (S := fun U => Fr (fun k => nl.ev.ownBlock = some k) W1 U) (n := 21) (by kernel_rfl) (hS0) (fun hHeld => ?_)
  have hD : Below W1.heap.size W1 W1.drew := (Below.refl _ _).drew
  generalize W1.drew = W1d at hD hHeld ⊢
  refine takeL 0 21 (v := .pointer (some ⟨l, 0, none⟩)) rfl rfl (by kernel_rfl) (by kernel_rfl) (by kernel_rfl) (by kernel_rfl) (fun _ _ _ h => h) (Or.inl ⟨by rfl, by (intro W hSw; obtain ⟨s1, s2, s3, s4, s5⟩ := CE.out W hSw; go_simp)⟩) hHeld ?_
  simp only [List.setIfInBounds_toArray, List.set_cons_zero, List.set_cons_succ]
  refine takeL 1 22 (v := .pointer (some ⟨l, 0, none⟩)) rfl rfl (by kernel_rfl) (by kernel_rfl) (by kernel_rfl) (by kernel_rfl) (fun _ _ _ h => h) (Or.inl ⟨by rfl, by (intro W hSw; obtain ⟨s1, s2, s3, s4, s5⟩ := CE.out W hSw; go_simp)⟩) hHeld ?_
  simp only [List.setIfInBounds_toArray, List.set_cons_zero, List.set_cons_succ]
  refine takeL 2 23 (v := .pointer (some ⟨l, 0, none⟩)) rfl rfl (by kernel_rfl) (by kernel_rfl) (by kernel_rfl) (by kernel_rfl) (fun _ _ _ h => h) (Or.inl ⟨by rfl, by (intro W hSw; obtain ⟨s1, s2, s3, s4, s5⟩ := CE.out W hSw; go_simp)⟩) hHeld ?_
  simp only [List.setIfInBounds_toArray, List.set_cons_zero, List.set_cons_succ]
  refine takeL 3 24 (v := .pointer (some ⟨l, 0, none⟩)) rfl rfl (by kernel_rfl) (by kernel_rfl) (by kernel_rfl) (by kernel_rfl) (fun _ _ _ h => h) (Or.inl ⟨by rfl, by (intro W hSw; obtain ⟨s1, s2, s3, s4, s5⟩ := CE.out W hSw; go_simp)⟩) hHeld ?_
  simp only [List.setIfInBounds_toArray, List.set_cons_zero, List.set_cons_succ]
  refine takeL 4 25 (v := nl.ev) rfl rfl (by kernel_rfl) (by kernel_rfl) (by kernel_rfl) (by kernel_rfl) (fun _ _ _ h => h) (Or.inl ⟨by rfl, by (intro W hSw; obtain ⟨s1, s2, s3, s4, s5⟩ := CE.out W hSw; go_simp)⟩) hHeld ?_
  simp only [List.setIfInBounds_toArray, List.set_cons_zero, List.set_cons_succ]
  refine takeL 5 26 (v := .pointer (some ⟨p, 0, none⟩)) rfl rfl (by kernel_rfl) (by kernel_rfl) (by kernel_rfl) (by kernel_rfl) (fun _ _ _ h => h) (Or.inl ⟨by rfl, by (intro W hSw; obtain ⟨s1, s2, s3, s4, s5⟩ := CE.out W hSw; go_simp)⟩) hHeld ?_
  simp only [List.setIfInBounds_toArray, List.set_cons_zero, List.set_cons_succ]
  refine takeL 6 27 (v := .pointer (some ⟨p, 0, none⟩)) rfl rfl (by kernel_rfl) (by kernel_rfl) (by kernel_rfl) (by kernel_rfl) (fun _ _ _ h => h) (Or.inl ⟨by rfl, by (intro W hSw; obtain ⟨s1, s2, s3, s4, s5⟩ := CE.out W hSw; go_simp)⟩) hHeld ?_
  simp only [List.setIfInBounds_toArray, List.set_cons_zero, List.set_cons_succ]
  refine takeL 7 28 (v := .pointer (some ⟨p, 0, none⟩)) rfl rfl (by kernel_rfl) (by kernel_rfl) (by kernel_rfl) (by kernel_rfl) (fun _ _ _ h => h) (Or.inl ⟨by rfl, by (intro W hSw; obtain ⟨s1, s2, s3, s4, s5⟩ := CE.out W hSw; go_simp)⟩) hHeld ?_
  simp only [List.setIfInBounds_toArray, List.set_cons_zero, List.set_cons_succ]
  refine takeL 8 29 (v := .slice (some ⟨rb, 0, none⟩) n.es.length rc) rfl rfl (by kernel_rfl) (by kernel_rfl) (by kernel_rfl) (by kernel_rfl) (fun _ _ _ h => h) (Or.inl ⟨by rfl, by (intro W hSw; obtain ⟨s1, s2, s3, s4, s5⟩ := CE.out W hSw; go_simp)⟩) hHeld ?_
  simp only [List.setIfInBounds_toArray, List.set_cons_zero, List.set_cons_succ]
  refine takeL 9 30 (v := .int .i64 (i : Int)) rfl rfl (by kernel_rfl) (by kernel_rfl) (by kernel_rfl) (by kernel_rfl) (fun _ _ _ h => h) (Or.inl ⟨by rfl, by (intro W hSw; obtain ⟨s1, s2, s3, s4, s5⟩ := CE.out W hSw; go_simp)⟩) hHeld ?_
  simp only [List.setIfInBounds_toArray, List.set_cons_zero, List.set_cons_succ]
  refine takeL 10 31 (v := .pointer (some ⟨rb, i * 2, none⟩)) rfl rfl (by kernel_rfl) (by kernel_rfl) (by kernel_rfl) (by kernel_rfl) (fun _ _ _ h => h) (Or.inl ⟨by rfl, by (intro W hSw; obtain ⟨s1, s2, s3, s4, s5⟩ := CE.out W hSw; go_simp)⟩) hHeld ?_
  simp only [List.setIfInBounds_toArray, List.set_cons_zero, List.set_cons_succ]
  refine takeL 11 32 (v := .agg #[.string x.key, .int .i64 x.n]) rfl rfl (by kernel_rfl) (by kernel_rfl) (by kernel_rfl) (by kernel_rfl) (fun _ _ _ h => h) (Or.inl ⟨by rfl, by (intro W hSw; obtain ⟨s1, s2, s3, s4, s5⟩ := CE.out W hSw; go_simp)⟩) hHeld ?_
  simp only [List.setIfInBounds_toArray, List.set_cons_zero, List.set_cons_succ]
  refine takeL 14 35 (v := .pointer (some ⟨r, 0, none⟩)) rfl rfl (by kernel_rfl) (by kernel_rfl) (by kernel_rfl) (by kernel_rfl) (fun _ _ _ h => h) (Or.inl ⟨by rfl, by (intro W hSw; obtain ⟨s1, s2, s3, s4, s5⟩ := CE.out W hSw; go_simp)⟩) hHeld ?_
  simp only [List.setIfInBounds_toArray, List.set_cons_zero, List.set_cons_succ]
  refine takeL 15 36 (v := .pointer (some ⟨r, 0, none⟩)) rfl rfl (by kernel_rfl) (by kernel_rfl) (by kernel_rfl) (by kernel_rfl) (fun _ _ _ h => h) (Or.inl ⟨by rfl, by (intro W hSw; obtain ⟨s1, s2, s3, s4, s5⟩ := CE.out W hSw; go_simp)⟩) hHeld ?_
  simp only [List.setIfInBounds_toArray, List.set_cons_zero, List.set_cons_succ]
  refine takeL 16 37 (v := .pointer (some ⟨r, 0, none⟩)) rfl rfl (by kernel_rfl) (by kernel_rfl) (by kernel_rfl) (by kernel_rfl) (fun _ _ _ h => h) (Or.inl ⟨by rfl, by (intro W hSw; obtain ⟨s1, s2, s3, s4, s5⟩ := CE.out W hSw; go_simp)⟩) hHeld ?_
  simp only [List.setIfInBounds_toArray, List.set_cons_zero, List.set_cons_succ]
  refine takeL 17 38 (v := nr.ev) rfl rfl (by kernel_rfl) (by kernel_rfl) (by kernel_rfl) (by kernel_rfl) (fun _ _ _ h => h) (Or.inl ⟨by rfl, by (intro W hSw; obtain ⟨s1, s2, s3, s4, s5⟩ := CE.out W hSw; go_simp)⟩) hHeld ?_
  simp only [List.setIfInBounds_toArray, List.set_cons_zero, List.set_cons_succ]
  refine anyL_one 12 (by kernel_rfl) (upL rfl (fun K hK => ?_))
  go_simp
  have fA := hHeld.alloc (.cells #[.string x.key, .int .i64 x.n] 58)
  have rv1 := one_newE W1d x
  have row1 := (hrowl.below' hD).below' (below_alloc1 W1d (.cells #[.string x.key, .int .i64 x.n] 58))
  refine hK.out _ _ (fun _ => fA) (fun hHeld0 => ?_)
  have hHeld := hHeld0 (by decide)
  clear hHeld0 hK K
  (try simp only [Act.put, List.setIfInBounds_toArray, List.set_cons_zero, List.set_cons_succ])
  refine anyL_one 13 (by kernel_rfl) (upL rfl (fun K hK => ?_))
  refine step_append_rows gE_len gE_one Try.underlying45 Try.infoE rfl (by decide) (by decide) rfl (.tmp 25) (.tmp 33) rfl (by first | rfl | simp [Act.eval]) row1 (by first | rfl | simp [Act.eval]) rv1 (by simp; omega) (Nat.le_trans HB1.out hHeld.size) ?_
  intro v2 w2 row2 fr2 new2
  have fB : Fr (fun k => nl.ev.ownBlock = some k) W1 w2 := hHeld.trans fr2 (fun _ _ g => g)
  refine hK.out _ _ (fun _ => fB) (fun hHeld0 => ?_)
  have hHeld := hHeld0 (by decide)
  clear hHeld0 hK K
  (try simp only [Act.put, List.setIfInBounds_toArray])
  refine anyL_one 18 (by kernel_rfl) (upL rfl (fun K hK => ?_))
  refine step_append_rows gE_len gE_one Try.underlying45 Try.infoE rfl (by decide) (by decide) rfl (.tmp 34) (.tmp 38) rfl (by first | rfl | simp [Act.eval]) row2 (by first | rfl | simp [Act.eval]) (HRr.out _ hHeld) (by simp; omega) (Nat.le_trans HB1.out hHeld.size) ?_
  intro v3 w3 row3 fr3 new3
  have new3' : ∀ k, v3.ownBlock = some k → nl.ev.ownBlock = some k ∨ W1.heap.size ≤ k := fun k e => by
    rcases new3 k e with e | e
    · rcases new2 k e with e | e
      · exact Or.inl e
      · exact Or.inr (Nat.le_trans (Nat.le_trans hD.size (by simp)) e)
    · exact Or.inr (Nat.le_trans hHeld.size e)
  have fC : Fr (fun k => nl.ev.ownBlock = some k) W1 w3 := hHeld.trans fr3 (fun k hk e => (new2 k e).elim id (fun g => by have := hD.size; simp at g; omega))
  refine hK.out _ _ (fun _ => fC) (fun hHeld0 => ?_)
  have hHeld := hHeld0 (by decide)
  clear hHeld0 hK K
  (try simp only [Act.put])
  refine anyL_one 19 (by kernel_rfl) (upL rfl (fun K hK => ?_))
  go_simp
  refine hK.out _ _ (fun _ => hHeld) (fun hHeld0 => ?_)
  have hHeld := hHeld0 (by decide)
  clear hHeld0 hK K
  (try simp only [Act.put, List.setIfInBounds_toArray, List.set_cons_zero, List.set_cons_succ])
  refine anyL_one 20 (by kernel_rfl) (upL rfl (fun K hK => ?_))
  go_simp
  refine hK.out _ _ (fun _ => hHeld) (fun hHeld0 => ?_)
  have hHeld := hHeld0 (by decide)
  clear hHeld0 hK K
  (try simp only [Act.put, List.setIfInBounds_toArray, List.set_cons_zero, List.set_cons_succ])
  have top3 := HTop.out _ hHeld
  obtain ⟨t0, _, t2, _⟩ := ncell top3
  obtain ⟨EJ, hEJ⟩ : ∃ EJ, nl.es ++ [x] ++ nr.es = EJ := ⟨_, rfl⟩
  have HEJ : Hid (nl.es ++ [x] ++ nr.es = EJ) := hEJ
  rw [hEJ] at row3
  clear hEJ
  obtain ⟨a3, c3, rfl, _, _⟩ := row3.len
  refine anyL_one 21 (by kernel_rfl) (upL rfl (fun K hK => ?_))
  go_simp
  refine hK.out _ _ (fun q => absurd rfl q) (fun _ => ?_)
  clear hK K
  (try simp only [Act.put, List.setIfInBounds_toArray, List.set_cons_zero, List.set_cons_succ])
  refine anyL_done (by kernel_rfl) ?_ _
  have up1 := HM1.out.ents' hnl hHeld row3 new3'
  obtain ⟨n1, hn1⟩ : ∃ n1 : Nr, n1 = ⟨.slice a3 EJ.length c3, nl.kv, EJ, nl.ks⟩ := ⟨_, rfl⟩
  have HN1 : Hid (n1.ev = .slice a3 EJ.length c3 ∧ n1.kv = nl.kv ∧ n1.es = EJ ∧ n1.ks = nl.ks) := by rw [hn1]; exact ⟨rfl, rfl, rfl, rfl⟩
  rw [← hn1] at up1
  have HU1 : Hid (Mm (w3.setCell ⟨l, 0, none⟩ (.slice a3 EJ.length c3)) B (M.put l n1) ∧ To W1 M (w3.setCell ⟨l, 0, none⟩ (.slice a3 EJ.length c3)) (M.put l n1)) := up1
  clear up1 hn1 row3 fr3 new3 new3' fr2 new2 row2 row1 rv1 fA fB fC hHeld hD t0 t2 top3 hrowl hnel HTop HRr CE hS0
  generalize w3.setCell ⟨l, 0, none⟩ (.slice a3 EJ.length c3) = W2 at *
  -- the kids
  have h1l : (M.put l n1) l = some n1 := Mp.put_same _ _ _
  have h1r : (M.put l n1) r = some nr := by rw [Mp.put_other _ _ (Ne.symm hlr)]; exact hnr
  have h1p : (M.put l n1) p = some n := by rw [Mp.put_other _ _ (Ne.symm hlp)]; exact hn
  have m2 := HU1.out.1
  have e1k : n1.kv = nl.kv := HN1.out.2.1
  have HB2 : Hid (B ≤ W2.heap.size) := Nat.le_trans HB1.out HU1.out.2.fr.size
  have CE : Hid (∀ U, Fr (fun k => nl.kv.ownBlock = some k) W2 U → U.cell? ⟨l, 1, none⟩ = some nl.kv ∧ U.cell? ⟨r, 1, none⟩ = some nr.kv) := fun U f => by
    rw [← e1k] at f ⊢
    have q1 := ncell (HU1.out.1.top3 h1l f)
    have q2 := ncell ((f.block r (HU1.out.1.lt ⟨r, nr, h1r, Or.inl rfl⟩).2 (fun e => HU1.out.1.kvB h1l h1r e rfl)).trans (HU1.out.1.top r nr h1r).1)
    exact ⟨q1.2.1, q2.2.1⟩
  have HTop : Hid (∀ U, Fr (fun k => nl.kv.ownBlock = some k) W2 U → U.heap[l]? = some (nobj n1.ev n1.kv)) := fun U f => HU1.out.1.top3 h1l (by rw [e1k]; exact f)
  have HRr : Hid (∀ U, Fr (fun k => nl.kv.ownBlock = some k) W2 U → RowK U B nr.kv nr.ks) := fun U f => f.row (HU1.out.1.kids r nr h1r) (fun k e1 e2 => hlr (HU1.out.1.apK _ _ _ _ _ h1l h1r (by rw [e1k]; exact e2) e1))
  have hS0 : Fr (fun k => nl.kv.ownBlock = some k) W2 W2.drew := (Fr.refl _ _).drew
  have hrowl : RowK W2 B nl.kv nl.ks := by
    have := HU1.out.1.kids l n1 h1l
    rw [e1k, HN1.out.2.2.2] at this
    exact this
  have HE1k : Hid (n1.kv = nl.kv) := e1k
  clear m2 e1k
  go_wp2_with fail
  refine anyL_begin (S := fun U => Fr (fun k => nl.kv.ownBlock = some k) W2 U) (n := 12) (by kernel_rfl) (hS0) (fun hHeld => ?_)
  have hD : Below W2.heap.size W2 W2.drew := (Below.refl _ _).drew
  generalize W2.drew = W2d at hD hHeld ⊢
  refine takeL 0 42 (v := .pointer (some ⟨l, 0, none⟩)) rfl rfl (by kernel_rfl) (by kernel_rfl) (by kernel_rfl) (by kernel_rfl) (fun _ _ _ h => h) (Or.inl ⟨by rfl, by (intro W hSw; obtain ⟨s1, s2⟩ := CE.out W hSw; go_simp)⟩) hHeld ?_
  simp only [List.setIfInBounds_toArray, List.set_cons_zero, List.set_cons_succ]
  refine takeL 1 43 (v := .pointer (some ⟨l, 0, none⟩)) rfl rfl (by kernel_rfl) (by kernel_rfl) (by kernel_rfl) (by kernel_rfl) (fun _ _ _ h => h) (Or.inl ⟨by rfl, by (intro W hSw; obtain ⟨s1, s2⟩ := CE.out W hSw; go_simp)⟩) hHeld ?_
  simp only [List.setIfInBounds_toArray, List.set_cons_zero, List.set_cons_succ]
  refine takeL 2 44 (v := .pointer (some ⟨l, 0, none⟩)) rfl rfl (by kernel_rfl) (by kernel_rfl) (by kernel_rfl) (by kernel_rfl) (fun _ _ _ h => h) (Or.inl ⟨by rfl, by (intro W hSw; obtain ⟨s1, s2⟩ := CE.out W hSw; go_simp)⟩) hHeld ?_
  simp only [List.setIfInBounds_toArray, List.set_cons_zero, List.set_cons_succ]
  refine takeL 3 45 (v := .pointer (some ⟨l, 1, none⟩)) rfl rfl (by kernel_rfl) (by kernel_rfl) (by kernel_rfl) (by kernel_rfl) (fun _ _ _ h => h) (Or.inl ⟨by rfl, by (intro W hSw; obtain ⟨s1, s2⟩ := CE.out W hSw; go_simp)⟩) hHeld ?_
  simp only [List.setIfInBounds_toArray, List.set_cons_zero, List.set_cons_succ]
  refine takeL 4 46 (v := nl.kv) rfl rfl (by kernel_rfl) (by kernel_rfl) (by kernel_rfl) (by kernel_rfl) (fun _ _ _ h => h) (Or.inl ⟨by rfl, by (intro W hSw; obtain ⟨s1, s2⟩ := CE.out W hSw; go_simp)⟩) hHeld ?_
  simp only [List.setIfInBounds_toArray, List.set_cons_zero, List.set_cons_succ]
  refine takeL 5 47 (v := .pointer (some ⟨r, 0, none⟩)) rfl rfl (by kernel_rfl) (by kernel_rfl) (by kernel_rfl) (by kernel_rfl) (fun _ _ _ h => h) (Or.inl ⟨by rfl, by (intro W hSw; obtain ⟨s1, s2⟩ := CE.out W hSw; go_simp)⟩) hHeld ?_
  simp only [List.setIfInBounds_toArray, List.set_cons_zero, List.set_cons_succ]
  refine takeL 6 48 (v := .pointer (some ⟨r, 0, none⟩)) rfl rfl (by kernel_rfl) (by kernel_rfl) (by kernel_rfl) (by kernel_rfl) (fun _ _ _ h => h) (Or.inl ⟨by rfl, by (intro W hSw; obtain ⟨s1, s2⟩ := CE.out W hSw; go_simp)⟩) hHeld ?_
  simp only [List.setIfInBounds_toArray, List.set_cons_zero, List.set_cons_succ]
  refine takeL 7 49 (v := .pointer (some ⟨r, 1, none⟩)) rfl rfl (by kernel_rfl) (by kernel_rfl) (by kernel_rfl) (by kernel_rfl) (fun _ _ _ h => h) (Or.inl ⟨by rfl, by (intro W hSw; obtain ⟨s1, s2⟩ := CE.out W hSw; go_simp)⟩) hHeld ?_
  simp only [List.setIfInBounds_toArray, List.set_cons_zero, List.set_cons_succ]
  refine takeL 8 50 (v := nr.kv) rfl rfl (by kernel_rfl) (by kernel_rfl) (by kernel_rfl) (by kernel_rfl) (fun _ _ _ h => h) (Or.inl ⟨by rfl, by (intro W hSw; obtain ⟨s1, s2⟩ := CE.out W hSw; go_simp)⟩) hHeld ?_
  simp only [List.setIfInBounds_toArray, List.set_cons_zero, List.set_cons_succ]
  refine anyL_one 9 (by kernel_rfl) (upL rfl (fun K hK => ?_))
  refine step_append_rows gK_len gK_one Try.underlying66 Try.infoK rfl (by decide) (by decide) rfl (.tmp 46) (.tmp 50) rfl (by first | rfl | simp [Act.eval]) (hrowl.below' hD) (by first | rfl | simp [Act.eval]) (HRr.out _ hHeld) (by omega) (Nat.le_trans HB2.out hHeld.size) ?_
  intro v4 w4 row4 fr4 new4
  have new4' : ∀ k, v4.ownBlock = some k → n1.kv.ownBlock = some k ∨ W2.heap.size ≤ k := fun k e => by
    rw [HE1k.out]
    exact (new4 k e).imp_right (fun g => Nat.le_trans hD.size g)
  have fB : Fr (fun k => nl.kv.ownBlock = some k) W2 w4 := hHeld.trans fr4 (fun _ _ g => g)
  refine hK.out _ _ (fun _ => fB) (fun hHeld0 => ?_)
  have hHeld := hHeld0 (by decide)
  clear hHeld0 hK K
  (try simp only [Act.put, List.setIfInBounds_toArray])
  refine anyL_one 10 (by kernel_rfl) (upL rfl (fun K hK => ?_))
  go_simp
  refine hK.out _ _ (fun _ => hHeld) (fun hHeld0 => ?_)
  have hHeld := hHeld0 (by decide)
  clear hHeld0 hK K
  (try simp only [Act.put, List.setIfInBounds_toArray, List.set_cons_zero, List.set_cons_succ])
  refine anyL_one 11 (by kernel_rfl) (upL rfl (fun K hK => ?_))
  go_simp
  refine hK.out _ _ (fun _ => hHeld) (fun hHeld0 => ?_)
  have hHeld := hHeld0 (by decide)
  clear hHeld0 hK K
  (try simp only [Act.put, List.setIfInBounds_toArray, List.set_cons_zero, List.set_cons_succ])
  have top4 := HTop.out _ hHeld
  obtain ⟨_, t1, _, t3⟩ := ncell top4
  obtain ⟨KJ, hKJ⟩ : ∃ KJ, nl.ks ++ nr.ks = KJ := ⟨_, rfl⟩
  have HKJ : Hid (nl.ks ++ nr.ks = KJ) := hKJ
  rw [hKJ] at row4
  clear hKJ
  obtain ⟨a4, c4, rfl, _, _⟩ := row4.len
  refine anyL_one 12 (by kernel_rfl) (upL rfl (fun K hK => ?_))
  go_simp
  refine hK.out _ _ (fun q => absurd rfl q) (fun _ => ?_)
  clear hK K
  (try simp only [Act.put, List.setIfInBounds_toArray, List.set_cons_zero, List.set_cons_succ])
  refine anyL_done (by kernel_rfl) ?_ _
  have up2 := HU1.out.1.kids' h1l (by rw [HE1k.out]; exact hHeld) row4 new4'
  rw [Mp.put_put] at up2
  obtain ⟨nj, hnj⟩ : ∃ nj : Nr, nj = ⟨n1.ev, .slice a4 KJ.length c4, n1.es, KJ⟩ := ⟨_, rfl⟩
  rw [← hnj] at up2
  have HNJ : Hid (nj.es = nl.es ++ x :: nr.es ∧ nj.ks = nl.ks ++ nr.ks) := by rw [hnj, HKJ.out, HN1.out.2.2.1, ← HEJ.out]; exact ⟨by simp, rfl⟩
  have HT2 : Hid (To w M (w4.setCell ⟨l, 1, none⟩ (.slice a4 KJ.length c4)) (M.put l nj)) := (HT1.out.trans HU1.out.2).trans up2.2
  have HM2 : Hid (Mm (w4.setCell ⟨l, 1, none⟩ (.slice a4 KJ.length c4)) B (M.put l nj)) := up2.1
  clear up2 hnj row4 fr4 new4 new4' fB hHeld hD t1 t3 top4 hrowl HTop HRr CE hS0
  generalize w4.setCell ⟨l, 1, none⟩ (.slice a4 KJ.length c4) = W3 at *
  -- the parent
  have h2p : (M.put l nj) p = some n := by rw [Mp.put_other _ _ (Ne.symm hlp)]; exact hn
  have HB3 : Hid (B ≤ W3.heap.size) := Nat.le_trans HBw.out HT2.out.fr.size
  obtain ⟨c0, _, _, _⟩ := ncell (HM2.out.top p n h2p).1
  rw [HE1.out] at c0
  have hrow3 : RowE W3 B (.slice (some ⟨rb, 0, none⟩) n.es.length rc) n.es := by rw [← HE1.out]; exact HM2.out.ents p n h2p
  have hdl := delE_any hrow3 i (i + 1) (by omega) (by omega) (by omega)
  rw [show ((i + 1 : Nat) : Int) = (i : Int) + 1 by omega, ← HE1.out] at hdl
  have HTp : Hid (∀ U, Fr (fun k => n.ev.ownBlock = some k) W3 U → U.heap[p]? = some (nobj n.ev n.kv)) := fun U f => HM2.out.top2 h2p f
  obtain ⟨EP, hEP⟩ : ∃ EP, n.es.take i ++ n.es.drop (i + 1) = EP := ⟨_, rfl⟩
  have HEP : Hid (n.es.take i ++ n.es.drop (i + 1) = EP) := hEP
  rw [hEP] at hdl
  rw [HE1.out] at hdl
  clear hEP hrow3
  go_wp2_with ((try go_at_call 49); refine hdl.mono ?_; rintro e w5 ⟨v5, rfl, row5, fr5, own5⟩; obtain ⟨a5, c5, rfl, _, _⟩ := row5.len; rw [← HE1.out] at fr5 own5; obtain ⟨t0, _, t2, _⟩ := ncell (HTp.out _ fr5))
  have up3 := HM2.out.ents' h2p fr5 row5 (fun k e => Or.inl (by rw [← own5]; exact e))
  obtain ⟨n5, hn5⟩ : ∃ n5 : Nr, n5 = ⟨.slice a5 EP.length c5, n.kv, EP, n.ks⟩ := ⟨_, rfl⟩
  have HN5 : Hid (n5.kv = n.kv ∧ n5.es = EP ∧ n5.ks = n.ks) := by rw [hn5]; exact ⟨rfl, rfl, rfl⟩
  rw [← hn5] at up3
  have HT3 : Hid (To w M (w5.setCell ⟨p, 0, none⟩ (.slice a5 EP.length c5)) ((M.put l nj).put p n5)) := HT2.out.trans up3.2
  have HM3 : Hid (Mm (w5.setCell ⟨p, 0, none⟩ (.slice a5 EP.length c5)) B ((M.put l nj).put p n5)) := up3.1
  have h3p : ((M.put l nj).put p n5) p = some n5 := Mp.put_same _ _ _
  clear up3 hn5 row5 fr5 own5 hdl t0 t2 HTp c0
  generalize w5.setCell ⟨p, 0, none⟩ (.slice a5 EP.length c5) = W5 at *
  have hrow5 : RowK W5 B n.kv n.ks := by
    have := HM3.out.kids p n5 h3p
    rw [HN5.out.1, HN5.out.2.2] at this
    exact this
  have hdk := delK_any hrow5 (i + 1) (i + 2) (by omega) (by omega) (by omega)
  rw [show ((i + 1 : Nat) : Int) = (i : Int) + 1 by omega, show ((i + 2 : Nat) : Int) = (i : Int) + 2 by omega] at hdk
  obtain ⟨KP, hKP⟩ : ∃ KP, n.ks.take (i + 1) ++ n.ks.drop (i + 2) = KP := ⟨_, rfl⟩
  have HKP : Hid (n.ks.take (i + 1) ++ n.ks.drop (i + 2) = KP) := hKP
  rw [hKP] at hdk
  have HTp : Hid (∀ U, Fr (fun k => n.kv.ownBlock = some k) W5 U → U.heap[p]? = some (nobj n5.ev n5.kv)) := fun U f => HM3.out.top3 h3p (by rw [HN5.out.1]; exact f)
  clear hKP hrow5
  refine hdk.mono ?_
  rintro e w6 ⟨v6, rfl, row6, fr6, own6⟩
  obtain ⟨a6, c6, rfl, _, _⟩ := row6.len
  obtain ⟨_, t1, _, t3⟩ := ncell (HTp.out _ fr6)
  go_wp2_with fail
  have up4 := HM3.out.kids' h3p (by rw [HN5.out.1]; exact fr6) row6 (fun k e => Or.inl (by rw [HN5.out.1, ← own6]; exact e))
  rw [Mp.put_put] at up4
  go_end0
  exact ⟨rfl, nj, ⟨n5.ev, .slice a6 KP.length c6, n5.es, KP⟩, HNJ.out.1, HNJ.out.2, HN5.out.2.1.trans HEP.out.symm, HKP.out.symm, up4.1, HT3.out.trans up4.2⟩
  end
  
  end Go.Proofs.Ytkfoddblgdmabaa.tr

/- Layer 10: a kid that has too few is mended. -/
import Derived.Test.YtkfoddblgdmabaaTrJoin
import Derived.Test.YtkfoddblgdmabaaTrSplit
namespace Go.Proofs.Ytkfoddblgdmabaa.tr
open Go.RowKit

section
variable {w : World} {B : Nat} {M : Mp} {f R H : Nat}

theorem insL_at {α : Type} {i : Nat} {x : α} {A C : List α} (h : A.length = i) : insL i x (A ++ C) = A ++ x :: C := insL_app h
theorem take_drop1 {α : Type} {i : Nat} {x : α} {A C : List α} (h : A.length = i) : (A ++ x :: C).take i ++ (A ++ x :: C).drop (i + 1) = A ++ C := by
  subst h
  simp
theorem take_drop2 {α : Type} {i : Nat} {x y : α} {A C : List α} (h : A.length = i) : (A ++ x :: y :: C).take (i + 1) ++ (A ++ x :: y :: C).drop (i + 2) = A ++ x :: C := by
  subst h
  rw [show A ++ x :: y :: C = (A ++ [x]) ++ y :: C by simp]
  have : (A ++ [x]).length = A.length + 1 := by simp
  rw [← this, List.take_left, show A.length + 2 = (A ++ [x]).length + 1 by simp, List.drop_append]
  simp
theorem getElem_mid {α : Type} {x : α} {A C : List α} {i : Nat} (h : A.length = i) : (A ++ x :: C)[i]? = some x := by
  subst h
  simp
theorem getElem_mid1 {α : Type} {x y : α} {A C : List α} {i : Nat} (h : A.length = i) : (A ++ x :: y :: C)[i + 1]? = some y := by
  subst h
  rw [List.getElem?_append_right (by omega)]
  simp

theorem lf_size {P : Nat → List Ent → List Nat → Prop} : ∀ {K : List Nat} {E A : List Ent} {F : List Nat}, Lf P K E A F → E.length ≤ A.length
  | [], [], _, _, _ => by simp
  | k :: K, e :: E, A, F, ⟨L, F1, A2, F2, _, h, e1, _⟩ => by
    have := lf_size h
    rw [e1]
    simp
    omega
  | [], _ :: _, _, _, h => h.elim
  | _ :: _, [], _, _, h => h.elim
theorem Tr.len {h b : Nat} {L : List Ent} {F : List Nat} {n : Nr} (t : Tr M f h b L F) (hn : M b = some n) : n.es.length ≤ L.length := (t.es_sub hn).length_le

set_option maxHeartbeats 3200000 in
set_option maxRecDepth 100000 in
/-- A kid that has too few: it is joined with the one beside it, and, where that is too many, split again. -/
theorem mend_any {p i : Nat} {up : List (Nat × Nat)} {h b : Nat} {pre L post : List Ent} {Fo F : List Nat} (m : Mm w B M) (hB : B ≤ w.heap.size) (s : Spot M f R H ((p, i) :: up) h b pre L post Fo F) (hf3 : 3 ≤ f) (hf : f ≤ 64) (hlen : (pre ++ L ++ post).length ≤ 20000) :
    Calls Try.prog 51 #[.pointer (some ⟨p, 0, none⟩), .int .i64 (i : Int), .int .i64 (f : Int)] w fun e w' => e = .returned (.tuple #[]) ∧ ∃ M' pre' L' post' Fo' F', Mm w' B M' ∧ To w M w' M' ∧ Spot M' f R H up (h + 1) p pre' L' post' Fo' F' ∧ pre ++ L ++ post = pre' ++ L' ++ post' := by
  obtain ⟨n, hn, hpF⟩ := s.up.dom rfl
  obtain ⟨E1, e, E2, K1, l, r, K2, A, FA, Ll, Fl, Lr, Fr, C, FC, pre', post', Fo', he, hk, hE1, hK1, lf, tl, tr, ff, rt, hu, hT, hd⟩ := s.beside hn
  obtain ⟨nl, hnl⟩ := tl.dom
  obtain ⟨nr, hnr⟩ := tr.dom
  -- sizes
  have hT' := congrArg List.length hT
  have sl := tl.len hnl
  have sr := tr.len hnr
  have kl := tl.ks_le hnl
  have kr := tr.ks_le hnr
  have hnE : n.es.length ≤ 20000 := by
    have q1 := rt_size (c := 1) (fun _ _ _ _ => by omega) rt
    have q2 := lf_size lf
    have q3 : n.es.length = E1.length + (E2.length + 1) := by rw [he]; simp
    simp only [List.length_append, List.length_cons] at hT' hlen
    omega
  have hnK : n.ks.length = n.es.length + 1 := by
    have q := rt_len rt
    rw [hk, he]
    simp only [List.length_append, List.length_cons]
    omega
  simp only [List.length_append, List.length_cons] at hT' hlen
  -- the places
  have hlp : l ≠ p := fun q => by
    have := (List.nodup_cons.1 hd).1
    have ml := tl.mem
    rw [q] at ml
    exact this (by simp [ml])
  have hlr : l ≠ r := fun q => by
    have h1 := (List.nodup_cons.1 hd).2
    simp only [List.append_assoc] at h1
    have h2 := (List.nodup_append.1 (List.nodup_append.1 h1).2.1).2.2
    exact h2 l tl.mem r (by simp [tr.mem]) q
  have hxi : n.es[i - 1]? = some e := by rw [he]; exact getElem_mid hE1
  have hki : n.ks[i - 1]? = some l := by rw [hk]; exact getElem_mid hK1
  have hki1 : n.ks[i - 1 + 1]? = some r := by rw [hk]; exact getElem_mid1 hK1
  have hj := join_any m hB hn hnl hnr hlp hlr hxi hki hki1 (by omega) (by omega) (by omega) (by omega) (by omega) (by omega)
  have hle : n.es.length ≤ 20000 ∧ i - 1 < n.es.length := ⟨hnE, (List.getElem?_eq_some_iff.1 hxi).1⟩
  have HBw : Hid (B ≤ w.heap.size) := hB
  have HS : Hid (Mm w B M) := m
  clear m hB
  obtain ⟨j, hij⟩ : ∃ j, j = i - 1 := ⟨_, rfl⟩
  rw [← hij] at hE1 hK1 hxi hki hki1 hj hle
  have HX : Hid (∀ {w' : World} {nj np : Nr}, nj.es = nl.es ++ e :: nr.es → nj.ks = nl.ks ++ nr.ks → np.es = n.es.take j ++ n.es.drop (j + 1) → np.ks = n.ks.take (j + 1) ++ n.ks.drop (j + 2) → Mm w' B ((M.put l nj).put p np) → nj.es.length + 1 ≤ f → ∃ F', Spot ((M.put l nj).put p np) f R H up (h + 1) p pre' (A ++ (Ll ++ e :: Lr) ++ C) post' Fo' F') := fun je jk pe pk _ _ => mend_a lf tl tr rt hu hd ff hnl hnr je jk (by rw [pe, he]; exact take_drop1 hE1) (by rw [pk, hk]; exact take_drop2 hK1) hE1
  have HY : Hid (∀ {nj np n2l n2r n3 : Nr} {r2 : Nat} {El Er : List Ent} {e2 : Ent}, nj.es = nl.es ++ e :: nr.es → nj.ks = nl.ks ++ nr.ks → np.es = n.es.take j ++ n.es.drop (j + 1) → np.ks = n.ks.take (j + 1) ++ n.ks.drop (j + 2) → ((M.put l nj).put p np) r2 = none → nj.es = El ++ e2 :: Er → n2l.es = El → n2l.ks = nj.ks.take (El.length + 1) → n2r.es = Er → n2r.ks = nj.ks.drop (El.length + 1) → f ≤ 2 * (El.length + 1) → f ≤ 2 * (Er.length + 1) → n3.es = insL j e2 np.es → n3.ks = insL (j + 1) r2 np.ks → ∃ F', Spot (((((M.put l nj).put p np).put l n2l).put r2 n2r).put p n3) f R H up (h + 1) p pre' (A ++ (Ll ++ e :: Lr) ++ C) post' Fo' F') := fun {nj np n2l n2r n3 r2 El Er e2} je jk pe pk h2 a1 a2 a3 a4 a5 a6 a7 a8 a9 => by
    have q1 : r2 ≠ p := fun q => by rw [q, Mp.put_same] at h2; cases h2
    rw [Mp.put_other _ _ q1] at h2
    have q2 : r2 ≠ l := fun q => by rw [q, Mp.put_same] at h2; cases h2
    rw [Mp.put_other _ _ q2] at h2
    exact mend_b lf tl tr rt hu hd hnl hnr (by rw [hn]; simp) je jk (by rw [pe, he]; exact take_drop1 hE1) (by rw [pk, hk]; exact take_drop2 hK1) hE1 h2 a1 a2 a3 a4 a5 a6 a7 a8 a9
  have hsz : nl.es.length + nr.es.length + 1 ≤ 20000 := by omega
  have hszk : ∀ nj : Nr, nj.ks = nl.ks ++ nr.ks → nj.es = nl.es ++ e :: nr.es → nj.ks = [] ∨ nj.ks.length = nj.es.length + 1 := fun nj jk je => by
    cases h with
    | zero => exact Or.inl (by rw [jk, (tl.ks_nil hnl).2 rfl, (tr.ks_nil hnr).2 rfl]; rfl)
    | succ h =>
      have a1 := tl.ks_len hnl
      have a2 := tr.ks_len hnr
      refine Or.inr ?_
      rw [jk, je]
      simp only [List.length_append, List.length_cons]
      omega
  have HZ : Hid (∀ nj : Nr, nj.ks = nl.ks ++ nr.ks → nj.es = nl.es ++ e :: nr.es → nj.ks = [] ∨ nj.ks.length = nj.es.length + 1) := hszk
  have hjn : (j : Int) < (n.es.length : Int) := by omega
  have hTT : pre ++ L ++ post = pre' ++ (A ++ (Ll ++ e :: Lr) ++ C) ++ post' := hT
  have HTT : Hid (pre ++ L ++ post = pre' ++ (A ++ (Ll ++ e :: Lr) ++ C) ++ post') := hTT
  clear hT hTT hT' hszk s
  have hcase : (i = 0 ∧ j = 0) ∨ (0 < i ∧ (i : Int) - 1 = (j : Int)) := by omega
  rcases hcase with ⟨hi0, hj0⟩ | ⟨hi0, hij2⟩
  · subst hi0 hj0
    rw [show ((0 : Nat) : Int) = 0 from rfl] at hj hjn
    clear hij
    have hmx : max (-1 : Int) 0 = 0 := by decide
    rw [show ((0 : Nat) : Int) = 0 from rfl]
    go_enter Try.func51, Try.ntmps51
    go_wp2_with fail
    refine hj.mono ?_
    rintro e9 w1 ⟨rfl, nj, np, je, jk, pe, pk, m1, t1⟩
    have hpp : ((M.put l nj).put p np) p = some np := Mp.put_same _ _ _
    have hpl : ((M.put l nj).put p np) l = some nj := by rw [Mp.put_other _ _ hlp, Mp.put_same]
    have hkj : np.ks[0]? = some l := by rw [pk, hk, take_drop2 hK1]; exact getElem_mid hK1
    obtain ⟨kb, kc, ek, hkc, hkm, hkb, k0⟩ := m1.kid hpp hkj
    have hjk2 : (0 : Int) < (np.ks.length : Int) := by have := (List.getElem?_eq_some_iff.1 hkj).1; omega
    have hjk3 : 0 < np.ks.length := by omega
    obtain ⟨_, c1, _, _⟩ := ncell (m1.top p np hpp).1
    rw [ek] at c1
    have hnj : nj.es.length ≤ 20000 := by rw [je]; simp only [List.length_append, List.length_cons]; omega
    have hmn := many_any m1 hpl (by omega) f (by omega)
    clear hj ek
    by_cases hbig : f < nj.es.length + 1
    · have hdec : decide (f < nj.es.length + 1) = true := by simpa using hbig
      rw [hdec] at hmn
      obtain ⟨hf2, hhf⟩ : ∃ hf2, nj.es.length / 2 = hf2 := ⟨_, rfl⟩
      have hy0 : hf2 < nj.es.length := by omega
      obtain ⟨y, hy⟩ : ∃ y, nj.es[hf2]? = some y := ⟨_, List.getElem?_eq_getElem hy0⟩
      have hB1 : B ≤ w1.heap.size := Nat.le_trans HBw.out t1.fr.size
      have hsp := split_any m1 hB1 hpl (by omega) hhf (by omega) (HZ.out nj jk je) hy
      have hnpl : np.es.length + 1 = n.es.length := by rw [pe]; simp only [List.length_append, List.length_take, List.length_drop]; omega
      have hnpk : np.ks.length = np.es.length + 1 := by rw [pk]; simp only [List.length_append, List.length_take, List.length_drop]; omega
      have HM1 : Hid (Mm w1 B ((M.put l nj).put p np)) := m1
      have HT1 : Hid (To w M w1 ((M.put l nj).put p np)) := t1
      have hcy := cut_in hf2 nj.es y hy
      have HC : Hid (nj.es = nj.es.take hf2 ++ y :: nj.es.drop (hf2 + 1) ∧ (nj.es.take hf2).length = hf2) := hcy
      clear hcy hdec m1 t1
      go_wp2_with (first | (go_at_call 46; refine hmn.mono ?_; clear hmn; rintro e9 w2 ⟨rfl, h2⟩; rw [h2]; clear h2 w2) | ((try go_at_call 47); refine hsp.mono ?_; clear hsp; rintro e9 w2 ⟨r2, n2l, n2r, rfl, hr2, g1, g2, g3, g4, m2, t2⟩))
      have m3 := m2.below (below_alloc1 w2 (.cells #[.string y.key, .int .i64 y.n] 58))
      have t3 := t2.trans (To.of_below (M := (((M.put l nj).put p np).put l n2l).put r2 n2r) (below_alloc1 w2 (.cells #[.string y.key, .int .i64 y.n] 58)))
      have hB3 : B ≤ (w2.alloc (.cells #[.string y.key, .int .i64 y.n] 58)).heap.size := Nat.le_trans (Nat.le_trans HBw.out HT1.out.fr.size) t3.fr.size
      have hpr2 : r2 ≠ p := fun q => by rw [q, Mp.put_same] at hr2; cases hr2
      have hp2 : ((((M.put l nj).put p np).put l n2l).put r2 n2r) p = some np := by rw [Mp.put_other _ _ (Ne.symm hpr2), Mp.put_other _ _ (Ne.symm hlp), Mp.put_same]
      have hni := ninsert_any m3 hB3 hp2 (by omega) y 0 (by omega) r2 (.pointer (some ⟨r2, 0, none⟩)) (Or.inr ⟨by intro q; rw [q] at hnpk; simp at hnpk, hnpk, rfl⟩)
      rw [show ((0 : Nat) : Int) = 0 from rfl] at hni
      refine hni.mono ?_
      rintro e9 w4 ⟨rfl, ev4, kv4, m4, t4⟩
      have hK : insK 0 r2 np.ks = insL (0 + 1) r2 np.ks := by
        rw [insK, if_neg]
        intro q
        rw [q] at hnpk
        simp at hnpk
      obtain ⟨F', sp⟩ := HY.out (n3 := ⟨ev4, kv4, insL 0 y np.es, insK 0 r2 np.ks⟩) je jk pe pk hr2 HC.out.1 g1 (by rw [HC.out.2]; exact g2) g3 (by rw [HC.out.2]; exact g4) (by rw [HC.out.2]; omega) (by rw [List.length_drop]; omega) rfl hK
      have HF : Hid (∃ M' pre2 L' post2 Fo2 F', Mm w4 B M' ∧ To w M w4 M' ∧ Spot M' f R H up (h + 1) p pre2 L' post2 Fo2 F' ∧ pre ++ L ++ post = pre2 ++ L' ++ post2) := ⟨_, _, _, _, _, _, m4, (HT1.out.trans t3).trans t4, sp, HTT.out⟩
      clear sp m4 t4 m3 t3 m2 t2
      go_wp2
      go_end0
      exact ⟨rfl, HF.out⟩
    · have hdec : decide (f < nj.es.length + 1) = false := by simpa using hbig
      rw [hdec] at hmn
      obtain ⟨F', sp⟩ := HX.out je jk pe pk m1 (by omega)
      have HF : Hid (∃ M' pre2 L' post2 Fo2 F', Mm w1 B M' ∧ To w M w1 M' ∧ Spot M' f R H up (h + 1) p pre2 L' post2 Fo2 F' ∧ pre ++ L ++ post = pre2 ++ L' ++ post2) := ⟨_, _, _, _, _, _, m1, t1, sp, HTT.out⟩
      clear sp m1 t1 hdec
      go_wp2_with ((try go_at_call 46); refine hmn.mono ?_; rintro e9 w2 ⟨rfl, h2⟩; rw [h2]; clear h2 w2)
      go_end0
      exact ⟨rfl, HF.out⟩
  · have hj0 : ¬ ((j : Int) < 0) := by omega
    have HIJ : Hid (j = i - 1) := hij
    clear hij
    go_enter Try.func51, Try.ntmps51
    go_wp2_with fail
    refine hj.mono ?_
    rintro e9 w1 ⟨rfl, nj, np, je, jk, pe, pk, m1, t1⟩
    have hpp : ((M.put l nj).put p np) p = some np := Mp.put_same _ _ _
    have hpl : ((M.put l nj).put p np) l = some nj := by rw [Mp.put_other _ _ hlp, Mp.put_same]
    have hkj : np.ks[j]? = some l := by rw [pk, hk, take_drop2 hK1]; exact getElem_mid hK1
    obtain ⟨kb, kc, ek, hkc, hkm, hkb, k0⟩ := m1.kid hpp hkj
    have hjk2 : (j : Int) < (np.ks.length : Int) := by have := (List.getElem?_eq_some_iff.1 hkj).1; omega
    obtain ⟨_, c1, _, _⟩ := ncell (m1.top p np hpp).1
    rw [ek] at c1
    have hnj : nj.es.length ≤ 20000 := by rw [je]; simp only [List.length_append, List.length_cons]; omega
    have hmn := many_any m1 hpl (by omega) f (by omega)
    clear hj ek
    by_cases hbig : f < nj.es.length + 1
    · have hdec : decide (f < nj.es.length + 1) = true := by simpa using hbig
      rw [hdec] at hmn
      obtain ⟨hf2, hhf⟩ : ∃ hf2, nj.es.length / 2 = hf2 := ⟨_, rfl⟩
      have hy0 : hf2 < nj.es.length := by omega
      obtain ⟨y, hy⟩ : ∃ y, nj.es[hf2]? = some y := ⟨_, List.getElem?_eq_getElem hy0⟩
      have hB1 : B ≤ w1.heap.size := Nat.le_trans HBw.out t1.fr.size
      have hsp := split_any m1 hB1 hpl (by omega) hhf (by omega) (HZ.out nj jk je) hy
      have hnpl : np.es.length + 1 = n.es.length := by rw [pe]; simp only [List.length_append, List.length_take, List.length_drop]; omega
      have hnpk : np.ks.length = np.es.length + 1 := by rw [pk]; simp only [List.length_append, List.length_take, List.length_drop]; omega
      have HM1 : Hid (Mm w1 B ((M.put l nj).put p np)) := m1
      have HT1 : Hid (To w M w1 ((M.put l nj).put p np)) := t1
      have hcy := cut_in hf2 nj.es y hy
      have HC : Hid (nj.es = nj.es.take hf2 ++ y :: nj.es.drop (hf2 + 1) ∧ (nj.es.take hf2).length = hf2) := hcy
      clear hcy hdec m1 t1
      go_wp2_with (first | (go_at_call 46; refine hmn.mono ?_; clear hmn; rintro e9 w2 ⟨rfl, h2⟩; rw [h2]; clear h2 w2) | ((try go_at_call 47); refine hsp.mono ?_; clear hsp; rintro e9 w2 ⟨r2, n2l, n2r, rfl, hr2, g1, g2, g3, g4, m2, t2⟩))
      have m3 := m2.below (below_alloc1 w2 (.cells #[.string y.key, .int .i64 y.n] 58))
      have t3 := t2.trans (To.of_below (M := (((M.put l nj).put p np).put l n2l).put r2 n2r) (below_alloc1 w2 (.cells #[.string y.key, .int .i64 y.n] 58)))
      have hB3 : B ≤ (w2.alloc (.cells #[.string y.key, .int .i64 y.n] 58)).heap.size := Nat.le_trans (Nat.le_trans HBw.out HT1.out.fr.size) t3.fr.size
      have hpr2 : r2 ≠ p := fun q => by rw [q, Mp.put_same] at hr2; cases hr2
      have hp2 : ((((M.put l nj).put p np).put l n2l).put r2 n2r) p = some np := by rw [Mp.put_other _ _ (Ne.symm hpr2), Mp.put_other _ _ (Ne.symm hlp), Mp.put_same]
      refine (ninsert_any m3 hB3 hp2 (by omega) y j (by omega) r2 _ (Or.inr ⟨?_, hnpk, rfl⟩)).mono ?_
      · intro q
        rw [q] at hnpk
        simp at hnpk
      rintro e9 w4 ⟨rfl, ev4, kv4, m4, t4⟩
      have hK : insK j r2 np.ks = insL (j + 1) r2 np.ks := by
        rw [insK, if_neg]
        intro q
        rw [q] at hnpk
        simp at hnpk
      obtain ⟨F', sp⟩ := HY.out (n3 := ⟨ev4, kv4, insL j y np.es, insK j r2 np.ks⟩) je jk pe pk hr2 HC.out.1 g1 (by rw [HC.out.2]; exact g2) g3 (by rw [HC.out.2]; exact g4) (by rw [HC.out.2]; omega) (by rw [List.length_drop]; omega) rfl hK
      have HF : Hid (∃ M' pre2 L' post2 Fo2 F', Mm w4 B M' ∧ To w M w4 M' ∧ Spot M' f R H up (h + 1) p pre2 L' post2 Fo2 F' ∧ pre ++ L ++ post = pre2 ++ L' ++ post2) := ⟨_, _, _, _, _, _, m4, (HT1.out.trans t3).trans t4, sp, HTT.out⟩
      clear sp m4 t4 m3 t3 m2 t2
      go_wp2
      go_end0
      exact ⟨rfl, HF.out⟩
    · have hdec : decide (f < nj.es.length + 1) = false := by simpa using hbig
      rw [hdec] at hmn
      obtain ⟨F', sp⟩ := HX.out je jk pe pk m1 (by omega)
      have HF : Hid (∃ M' pre2 L' post2 Fo2 F', Mm w1 B M' ∧ To w M w1 M' ∧ Spot M' f R H up (h + 1) p pre2 L' post2 Fo2 F' ∧ pre ++ L ++ post = pre2 ++ L' ++ post2) := ⟨_, _, _, _, _, _, m1, t1, sp, HTT.out⟩
      clear sp m1 t1 hdec
      go_wp2_with ((try go_at_call 46); refine hmn.mono ?_; rintro e9 w2 ⟨rfl, h2⟩; rw [h2]; clear h2 w2)
      go_end0
      exact ⟨rfl, HF.out⟩
end

end Go.Proofs.Ytkfoddblgdmabaa.tr

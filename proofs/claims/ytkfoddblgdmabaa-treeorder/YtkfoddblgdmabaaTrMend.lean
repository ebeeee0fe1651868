/- Layer 10, plain mathematics: nodes that have too few; an entry in another one's place; what is near a key; how deep a tree is. -/
import Derived.Test.YtkfoddblgdmabaaTrStep
namespace Go.Proofs.Ytkfoddblgdmabaa.tr
open Go.RowKit

section
variable {M : Mp} {f R H : Nat}

/-- A node and the one beside it, with the entry between them. -/
theorem Spot.beside {p i : Nat} {up : List (Nat × Nat)} {h b : Nat} {pre L post : List Ent} {Fo F : List Nat} {n : Nr} (s : Spot M f R H ((p, i) :: up) h b pre L post Fo F) (hn : M p = some n) :
    ∃ E1 e E2 K1 l r K2 A FA Ll Fl Lr Fr B FB pre' post' Fo', n.es = E1 ++ e :: E2 ∧ n.ks = K1 ++ l :: r :: K2 ∧ E1.length = i - 1 ∧ K1.length = i - 1 ∧ Lf (Kid M f h) K1 E1 A FA ∧ Tr M f h l Ll Fl ∧ Tr M f h r Lr Fr ∧ (Full M f l ∨ Full M f r) ∧ Rt (Kid M f h) E2 K2 B FB ∧
      Up M f R H up (h + 1) p pre' post' Fo' ∧ pre ++ L ++ post = pre' ++ (A ++ (Ll ++ e :: Lr) ++ B) ++ post' ∧ (p :: (FA ++ Fl ++ Fr ++ FB ++ Fo')).Nodup := by
  obtain ⟨n0, E1, E2, K1, K2, A, FA, B, FB, pre', post', Fo', h1, h2, h3, h4, h5, h6, h7, h8, h9, h10, h11, h12⟩ := s.up
  rw [hn] at h1; cases h1
  subst h10 h11 h12
  have hlK := lf_len h6
  cases i with
  | zero =>
    have e1 : E1 = [] := List.eq_nil_of_length_eq_zero h4
    subst e1
    have e2 : K1 = [] := List.eq_nil_of_length_eq_zero (by simpa using hlK)
    subst e2
    obtain ⟨rfl, rfl⟩ := h6
    cases E2 with
    | nil => rw [h2] at h5; simp at h5
    | cons e E2 =>
      cases K2 with
      | nil => exact h7.elim
      | cons r K2 =>
        obtain ⟨Lr, Fr, B2, F2, g1, g2, rfl, rfl⟩ := h7
        refine ⟨[], e, E2, [], b, r, K2, [], [], L, F, Lr, Fr, B2, F2, pre', post', Fo', h2, h3, rfl, rfl, ⟨rfl, rfl⟩, s.tr, g1.1, Or.inr g1.2, g2, h8, by simp, ?_⟩
        refine (List.Perm.nodup_iff ?_).1 s.nd
        simp only [List.cons_append, List.nil_append, List.append_assoc]
        refine List.Perm.cons p ?_
        have := List.perm_append_comm (l₁ := Fr ++ (F2 ++ Fo')) (l₂ := F)
        simpa [List.append_assoc] using this
  | succ i =>
    have e1 : E1 ≠ [] := fun q => by rw [q] at h4; simp at h4
    obtain ⟨E0, e, rfl⟩ : ∃ E0 e, E1 = E0 ++ [e] := ⟨_, _, (List.dropLast_concat_getLast e1).symm⟩
    have e2 : K1 ≠ [] := fun q => by rw [q] at hlK; simp at hlK
    obtain ⟨K0, l, rfl⟩ : ∃ K0 l, K1 = K0 ++ [l] := ⟨_, _, (List.dropLast_concat_getLast e2).symm⟩
    obtain ⟨A0, FA0, A1, FA1, g1, g2, rfl, rfl⟩ := lf_split (by simpa using hlK) h6
    obtain ⟨Ll, Fl, A2, F2, g3, ⟨rfl, rfl⟩, rfl, rfl⟩ := g2
    simp at h4 hlK
    refine ⟨E0, e, E2, K0, l, b, K2, A0, FA0, Ll, Fl, L, F, B, FB, pre', post', Fo', by rw [h2]; simp, by rw [h3]; simp, by simpa using h4, by simp; omega, g1, g3.1, s.tr, Or.inl g3.2, h7, h8, by simp, ?_⟩
    refine (List.Perm.nodup_iff ?_).1 s.nd
    simp only [List.cons_append, List.append_nil, List.append_assoc]
    refine List.Perm.cons p (List.Perm.append_left FA0 (List.Perm.append_left Fl ?_))
    have := List.perm_append_comm (l₁ := FB ++ Fo') (l₂ := F)
    simpa [List.append_assoc] using this

/-- A join that is enough. -/
theorem mend_a {p i : Nat} {up : List (Nat × Nat)} {h l r : Nat} {E1 E2 A B Ll Lr pre' post' : List Ent} {e : Ent} {K1 K2 FA FB Fl Fr Fo' : List Nat} {nl nr nj np : Nr}
    (lf : Lf (Kid M f h) K1 E1 A FA) (tl : Tr M f h l Ll Fl) (tr : Tr M f h r Lr Fr) (rt : Rt (Kid M f h) E2 K2 B FB) (hu : Up M f R H up (h + 1) p pre' post' Fo') (hd : (p :: (FA ++ Fl ++ Fr ++ FB ++ Fo')).Nodup)
    (hf : Full M f l ∨ Full M f r) (hl : M l = some nl) (hr : M r = some nr) (je : nj.es = nl.es ++ e :: nr.es) (jk : nj.ks = nl.ks ++ nr.ks) (pe : np.es = E1 ++ E2) (pk : np.ks = K1 ++ l :: K2) (_hi : E1.length = i) :
    ∃ F', Spot ((M.put l nj).put p np) f R H up (h + 1) p pre' (A ++ (Ll ++ e :: Lr) ++ B) post' Fo' F' := by
  obtain ⟨⟨Fj, tj, pj⟩, lf1, rt1, hO, hm, hrn⟩ := joined (np := np) lf tl tr rt hd hl hr je jk
  have fj : Full ((M.put l nj).put p np) f l := ⟨nj, hm, by
    rw [je]
    rcases hf with ⟨n, a, b⟩ | ⟨n, a, b⟩
    · rw [hl] at a; cases a; simp; omega
    · rw [hr] at a; cases a; simp; omega⟩
  have hn := nd_of lf1 (show Kid _ f h l _ Fj from ⟨tj, fj⟩) rt1
  rw [← pe, ← pk] at hn
  refine ⟨p :: (FA ++ Fj ++ FB), hu.congr hO, ⟨np, _, Mp.put_same _ _ _, hn, rfl⟩, ?_⟩
  have h3 : (p :: (FA ++ (r :: Fj) ++ FB ++ Fo')).Nodup := by
    refine (List.Perm.nodup_iff ?_).1 hd
    refine List.Perm.cons p ?_
    simp only [List.append_assoc]
    refine List.Perm.append_left FA ?_
    rw [← List.append_assoc Fl]
    exact (List.Perm.append_right _ pj).symm
  have h4 : (p :: (FA ++ Fj ++ FB ++ Fo')).Nodup := h3.sublist (by
    refine List.Sublist.cons_cons p ?_
    simp only [List.append_assoc]
    refine List.Sublist.append (List.Sublist.refl _) ?_
    exact List.Sublist.cons r (List.Sublist.refl _))
  refine (List.Perm.nodup_iff ?_).1 h4
  refine List.Perm.trans ?_ (List.perm_middle.symm)
  refine List.Perm.cons p ?_
  exact List.perm_append_comm

/-- A join that is too many: it is split again. -/
theorem mend_b {p i : Nat} {up : List (Nat × Nat)} {h l r r2 : Nat} {E1 E2 A B Ll Lr pre' post' El Er : List Ent} {e e2 : Ent} {K1 K2 FA FB Fl Fr Fo' : List Nat} {nl nr nj np n2l n2r n3 : Nr}
    (lf : Lf (Kid M f h) K1 E1 A FA) (tl : Tr M f h l Ll Fl) (tr : Tr M f h r Lr Fr) (rt : Rt (Kid M f h) E2 K2 B FB) (hu : Up M f R H up (h + 1) p pre' post' Fo') (hd : (p :: (FA ++ Fl ++ Fr ++ FB ++ Fo')).Nodup)
    (hl : M l = some nl) (hr : M r = some nr) (hp : M p ≠ none) (je : nj.es = nl.es ++ e :: nr.es) (jk : nj.ks = nl.ks ++ nr.ks) (pe : np.es = E1 ++ E2) (pk : np.ks = K1 ++ l :: K2) (hi : E1.length = i)
    (h2 : M r2 = none) (he : nj.es = El ++ e2 :: Er) (hL : n2l.es = El) (hlk : n2l.ks = nj.ks.take (El.length + 1)) (hR : n2r.es = Er) (hrk : n2r.ks = nj.ks.drop (El.length + 1))
    (fl : f ≤ 2 * (El.length + 1)) (fr : f ≤ 2 * (Er.length + 1)) (e3 : n3.es = insL i e2 np.es) (k3 : n3.ks = insL (i + 1) r2 np.ks) :
    ∃ F', Spot (((((M.put l nj).put p np).put l n2l).put r2 n2r).put p n3) f R H up (h + 1) p pre' (A ++ (Ll ++ e :: Lr) ++ B) post' Fo' F' := by
  obtain ⟨⟨Fj, tj, pj⟩, lf1, rt1, hO, hm, hrn⟩ := joined (np := np) lf tl tr rt hd hl hr je jk
  have h3 : (p :: (FA ++ (r :: Fj) ++ FB ++ Fo')).Nodup := by
    refine (List.Perm.nodup_iff ?_).1 hd
    refine List.Perm.cons p ?_
    simp only [List.append_assoc]
    refine List.Perm.append_left FA ?_
    rw [← List.append_assoc Fl]
    exact (List.Perm.append_right _ pj).symm
  have h4 : (p :: (FA ++ Fj ++ FB ++ Fo')).Nodup := h3.sublist (by
    refine List.Sublist.cons_cons p ?_
    simp only [List.append_assoc]
    refine List.Sublist.append (List.Sublist.refl _) ?_
    exact List.Sublist.cons r (List.Sublist.refl _))
  have hlp : l ≠ p := fun q => by
    have := (List.nodup_cons.1 hd).1
    have ml := tl.mem
    rw [q] at ml
    exact this (by simp [ml])
  have hr2 : ∀ x, M x ≠ none → x ≠ r2 := fun x hx q => hx (by rw [q, h2])
  have h2' : ((M.put l nj).put p np) r2 = none := by
    rw [Mp.put_other _ _ (fun q => hr2 p hp q.symm), Mp.put_other _ _ (fun q => hr2 l (by rw [hl]; simp) q.symm)]
    exact h2
  have dj : Fj.Nodup := h4.sublist (by
    refine List.Sublist.cons p ?_
    simp only [List.append_assoc]
    exact (List.sublist_append_left Fj _).trans (List.sublist_append_right _ _))
  obtain ⟨L1, L2, F1, F2, t1, t2, eL, pF⟩ := tj.split dj hm h2' he hL hlk hR hrk
  have ml : l ∈ Fj := tj.mem
  have hr2F : ∀ x, x ∈ FA ++ Fj ++ FB ++ Fo' → x ≠ r2 := fun x hx => by
    rcases List.mem_append.1 hx with hx | hx
    · rcases List.mem_append.1 hx with hx | hx
      · rcases List.mem_append.1 hx with hx | hx
        · exact hr2 x (lf_dom (D := fun x => M x ≠ none) (fun k L F hp => Tr.all hp.1) lf x hx)
        · intro q
          exact tj.all x hx (by rw [q]; exact h2')
      · exact hr2 x (rt_dom (D := fun x => M x ≠ none) (fun k L F hp => Tr.all hp.1) rt x hx)
    · exact hr2 x (hu.all x hx)
  obtain ⟨hpn, hn4⟩ := List.nodup_cons.1 h4
  have hlx : ∀ x, x ∈ FA ++ FB ++ Fo' → x ≠ l := fun x hx q => by
    subst q
    have : (x :: (FA ++ FB ++ Fo')).Nodup := by
      refine (List.Perm.nodup_iff ?_).1 (hn4.sublist (l₁ := FA ++ [x] ++ FB ++ Fo') ?_)
      · simp only [List.append_assoc, List.cons_append, List.nil_append]
        exact List.perm_middle
      · simp only [List.append_assoc]
        refine List.Sublist.append (List.Sublist.refl _) (List.Sublist.append ?_ (List.Sublist.refl _))
        exact List.singleton_sublist.2 ml
    exact (List.nodup_cons.1 this).1 hx
  have hcp : ∀ x, x ∈ FA ++ FB ++ Fo' → (((((M.put l nj).put p np).put l n2l).put r2 n2r).put p n3) x = ((M.put l nj).put p np) x := fun x hx => by
    have hx' : x ∈ FA ++ Fj ++ FB ++ Fo' := by
      simp only [List.mem_append] at hx ⊢
      rcases hx with (hx | hx) | hx <;> simp [hx]
    rw [Mp.put_other _ _ (fun q => hpn (by rw [← q]; exact hx')), Mp.put_other _ _ (hr2F x hx'), Mp.put_other _ _ (hlx x hx)]
  have hp12 : ∀ x ∈ F1 ++ F2, x ≠ p := fun x hx q => by
    have := (pF.mem_iff (a := x)).1 hx
    rcases List.mem_cons.1 this with g | g
    · exact hr2 p hp (q.symm.trans g)
    · exact hpn (by rw [← q]; simp [g])
  have c1 := t1.congr (M' := (((((M.put l nj).put p np).put l n2l).put r2 n2r).put p n3)) (fun x hx => Mp.put_other _ _ (hp12 x (List.mem_append_left _ hx)))
  have c2 := t2.congr (M' := (((((M.put l nj).put p np).put l n2l).put r2 n2r).put p n3)) (fun x hx => Mp.put_other _ _ (hp12 x (List.mem_append_right _ hx)))
  have hrp : r2 ≠ p := fun q => hr2 p hp q.symm
  have hlr : l ≠ r2 := hr2 l (by rw [hl]; simp)
  have fl' : Full (((((M.put l nj).put p np).put l n2l).put r2 n2r).put p n3) f l := ⟨n2l, by rw [Mp.put_other _ _ hlp, Mp.put_other _ _ hlr, Mp.put_same], by rw [hL]; exact fl⟩
  have fr' : Full (((((M.put l nj).put p np).put l n2l).put r2 n2r).put p n3) f r2 := ⟨n2r, by rw [Mp.put_other _ _ hrp, Mp.put_same], by rw [hR]; exact fr⟩
  have lf3 := lf_congr (M' := (((((M.put l nj).put p np).put l n2l).put r2 n2r).put p n3)) (fun x hx => hcp x (by simp [hx])) lf1
  have rt3 := rt_congr (M' := (((((M.put l nj).put p np).put l n2l).put r2 n2r).put p n3)) (fun x hx => hcp x (by simp [hx])) rt1
  have rt4 : Rt (Kid (((((M.put l nj).put p np).put l n2l).put r2 n2r).put p n3) f h) (e2 :: E2) (r2 :: K2) (e2 :: (L2 ++ B)) (F2 ++ FB) := ⟨L2, F2, B, FB, ⟨c2, fr'⟩, rt3, rfl, rfl⟩
  have hn := nd_of lf3 (show Kid _ f h l L1 F1 from ⟨c1, fl'⟩) rt4
  have x1 : n3.es = E1 ++ e2 :: E2 := by rw [e3, pe]; exact insL_app hi
  have x2 : n3.ks = K1 ++ l :: r2 :: K2 := by
    rw [k3, pk, show K1 ++ l :: K2 = (K1 ++ [l]) ++ K2 by simp, insL_app (by rw [List.length_append, lf_len lf, hi]; rfl)]
    simp
  rw [← x1, ← x2] at hn
  have eT : A ++ L1 ++ e2 :: (L2 ++ B) = A ++ (Ll ++ e :: Lr) ++ B := by rw [eL]; simp
  rw [eT] at hn
  refine ⟨p :: (FA ++ F1 ++ (F2 ++ FB)), hu.congr (fun x hx => (hcp x (by simp [hx])).trans (hO x hx)), ⟨n3, _, Mp.put_same _ _ _, hn, rfl⟩, ?_⟩
  have h5 : (p :: (FA ++ (r2 :: Fj) ++ FB ++ Fo')).Nodup := by
    refine (List.Perm.nodup_iff (l₁ := r2 :: p :: (FA ++ Fj ++ FB ++ Fo')) ?_).1 (List.nodup_cons.2 ⟨fun q => ?_, h4⟩)
    · refine (List.Perm.swap p r2 _).trans (List.Perm.cons p ?_)
      simp only [List.append_assoc, List.cons_append]
      exact List.perm_middle.symm
    · rcases List.mem_cons.1 q with q | q
      · exact hrp q
      · exact hr2F r2 q rfl
  refine (List.Perm.nodup_iff ?_).1 h5
  refine List.Perm.trans ?_ (List.perm_middle.symm)
  refine List.Perm.cons p ?_
  refine (List.Perm.trans ?_ List.perm_append_comm)
  simp only [List.append_assoc]
  refine List.Perm.append_left FA ?_
  rw [← List.append_assoc F1]
  exact List.Perm.append_right _ pF.symm

/-- One entry for another, at a node. -/
theorem Spot.set {up : List (Nat × Nat)} {h b i : Nat} {pre L post : List Ent} {Fo F : List Nat} {n n' : Nr} {x y : Ent} (s : Spot M f R H up h b pre L post Fo F) (hn : M b = some n) (hx : n.es[i]? = some x) (he : n'.es = n.es.set i y) (hk : n'.ks = n.ks) :
    ∃ L1 L2, L = L1 ++ x :: L2 ∧ Spot (M.put b n') f R H up h b pre (L1 ++ y :: L2) post Fo F ∧ (Full M f b → Full (M.put b n') f b) := by
  have hb : b ∉ Fo := fun q => by
    have := s.nd
    rw [List.nodup_append] at this
    exact this.2.2 b q b s.tr.mem rfl
  have hf : Full M f b → Full (M.put b n') f b := fun ⟨n0, a, c⟩ => by
    rw [hn] at a; cases a
    exact ⟨n', Mp.put_same _ _ _, by rw [he]; simpa using c⟩
  have hu := s.up.congr (M' := M.put b n') (fun z hz => Mp.put_other _ _ (fun q => hb (q ▸ hz)))
  obtain ⟨c1, c2⟩ := cut_in i n.es x hx
  have c3 : n'.es = n.es.take i ++ y :: n.es.drop (i + 1) := by
    rw [he]
    conv => lhs; rw [c1]
    have hi : i < n.es.length := (List.getElem?_eq_some_iff.1 hx).1
    rw [List.set_append]
    simp [Nat.min_eq_left (Nat.le_of_lt hi)]
  obtain ⟨_, t, nd⟩ := s
  cases h with
  | zero =>
    obtain ⟨n0, a, b0, c, d⟩ := t
    rw [hn] at a; cases a
    exact ⟨_, _, c ▸ c1, ⟨hu, ⟨n', Mp.put_same _ _ _, by rw [hk, b0], c3, d⟩, nd⟩, hf⟩
  | succ h =>
    obtain ⟨n0, F', a, hnd, d⟩ := t
    rw [hn] at a; cases a
    have hl := nd_len hnd
    have hnd0 := hnd
    rw [c1, ← List.take_append_drop (i + 1) n.ks] at hnd0
    have hi : i < n.es.length := (List.getElem?_eq_some_iff.1 hx).1
    obtain ⟨L1, L2, F1, F2, g1, g2, g3, g4⟩ := nd_cut (by rw [c2]; simp; omega) hnd0
    have hj := nd_join y g1 g2
    rw [List.take_append_drop, ← c3, ← hk] at hj
    refine ⟨L1, L2, g3, ⟨hu, ⟨n', F', Mp.put_same _ _ _, ?_, d⟩, nd⟩, hf⟩
    rw [← g4] at hj
    refine nd_mono (fun k L G hG hp => Kid.congr (fun z hz => Mp.put_other _ _ (fun q => ?_)) hp) hj
    rw [d] at nd
    have := (List.nodup_append.1 nd).2.1
    exact (List.nodup_cons.1 this).1 (by rw [← q]; exact hG z hz)

/-- One entry for another, far above the end that lies just ahead of it. -/
theorem Up.set : ∀ {upl : List (Nat × Nat)} {upo : List (Nat × Nat)} {o i h b : Nat} {pre post : List Ent} {Fo : List Nat} {n n' : Nr} {x y : Ent}, Up M f R H (upl ++ (o, i) :: upo) h b pre post Fo → (∀ q ∈ upl, ∃ m, M q.1 = some m ∧ q.2 = m.es.length) → Fo.Nodup →
    M o = some n → n.es[i]? = some x → n'.es = n.es.set i y → n'.ks = n.ks → o ∈ Fo ∧ ∃ post1, post = x :: post1 ∧ Up (M.put o n') f R H (upl ++ (o, i) :: upo) h b pre (y :: post1) Fo
  | [], upo, o, i, h, b, pre, post, Fo, n, n', x, y, ⟨n0, E1, E2, K1, K2, A, FA, B, FB, pre', post', Fo', h1, h2, h3, h4, h5, h6, h7, h8, h9, h10, h11, h12⟩, hl, hd, hn, hx, he, hk => by
    rw [hn] at h1; cases h1
    subst h10 h11 h12
    obtain ⟨c1, c2⟩ := cut_in i n.es x hx
    have c3 : n'.es = n.es.take i ++ y :: n.es.drop (i + 1) := by
      rw [he]
      conv => lhs; rw [c1]
      have hi : i < n.es.length := (List.getElem?_eq_some_iff.1 hx).1
      rw [List.set_append]
      simp [Nat.min_eq_left (Nat.le_of_lt hi)]
    obtain ⟨E3, hE3⟩ : ∃ E3, n.es.drop (i + 1) = E3 := ⟨_, rfl⟩
    obtain ⟨E4, hE4⟩ : ∃ E4, n.es.take i = E4 := ⟨_, rfl⟩
    rw [hE3, hE4] at c1 c3
    rw [hE4] at c2
    obtain ⟨q1, q2⟩ := List.append_inj (h2.symm.trans c1) (by rw [c2, h4])
    subst q1 q2
    obtain ⟨B', rfl, hnd⟩ := nd_of_rt h7
    simp only [List.nodup_cons, List.mem_append, not_or] at hd
    obtain ⟨⟨⟨d1, d2⟩, d3⟩, _⟩ := hd
    refine ⟨by simp, B' ++ post', by simp, n', E1, y :: _, K1, K2, A, FA, _, FB, pre', post', Fo', Mp.put_same _ _ _, c3, by rw [hk, h3], h4, by rw [he]; simpa using h5, lf_congr (fun z hz => Mp.put_other _ _ (fun q => d1 (q ▸ hz))) h6, rt_congr (fun z hz => Mp.put_other _ _ (fun q => d2 (q ▸ hz))) (rt_of_nd y hnd), h8.congr (fun z hz => Mp.put_other _ _ (fun q => d3 (q ▸ hz))), fun q => ?_, rfl, by simp, rfl⟩
    obtain ⟨m, a, c⟩ := h9 q
    rw [hn] at a; cases a
    exact ⟨n', Mp.put_same _ _ _, by rw [he]; simpa using c⟩
  | (p, j) :: upl, upo, o, i, h, b, pre, post, Fo, n, n', x, y, ⟨n0, E1, E2, K1, K2, A, FA, B, FB, pre', post', Fo', h1, h2, h3, h4, h5, h6, h7, h8, h9, h10, h11, h12⟩, hl, hd, hn, hx, he, hk => by
    subst h10 h11 h12
    simp only [List.nodup_cons, List.mem_append, not_or] at hd
    obtain ⟨⟨⟨d1, d2⟩, d3⟩, hd⟩ := hd
    obtain ⟨dAB, dO, dx⟩ := List.nodup_append.1 hd
    obtain ⟨m, g1, g2⟩ := hl (p, j) (by simp)
    rw [h1] at g1; cases g1
    obtain ⟨ho, post1, e1, hu⟩ := Up.set h8 (fun q hq => hl q (by simp [hq])) dO hn hx he hk
    have hE2 : E2 = [] := by
      have : n0.es.length = E1.length + E2.length := by rw [h2]; simp
      simp at g2
      exact List.eq_nil_of_length_eq_zero (by omega)
    subst hE2
    have hpo : p ≠ o := fun q => d3 (by rw [q]; exact ho)
    cases K2 with
    | cons k K2 => exact h7.elim
    | nil =>
      obtain ⟨rfl, rfl⟩ := h7
      refine ⟨by simp [ho], post1, by simpa using e1, n0, E1, [], K1, [], A, FA, [], [], pre', y :: post1, Fo', (Mp.put_other _ _ hpo).trans h1, h2, h3, h4, h5, lf_congr (fun z hz => Mp.put_other _ _ (fun q => dx z (by simp [hz]) o ho q)) h6, ⟨rfl, rfl⟩, hu, fun q => (h9 q).congr (Mp.put_other _ _ hpo), rfl, rfl, rfl⟩

/-- What lies next behind a node, by the node above. -/
theorem Up.next {p i : Nat} {up : List (Nat × Nat)} {h b : Nat} {pre post : List Ent} {Fo : List Nat} {n : Nr} (u : Up M f R H ((p, i) :: up) h b pre post Fo) (hn : M p = some n) : ∃ pre' post' Fo', Up M f R H up (h + 1) p pre' post' Fo' ∧ i ≤ n.es.length ∧ (i < n.es.length → post.head? = n.es[i]?) ∧ (i = n.es.length → post = post') ∧ (0 < i → pre.getLast? = n.es[i - 1]?) ∧ (i = 0 → pre = pre') := by
  obtain ⟨n0, E1, E2, K1, K2, A, FA, B, FB, pre', post', Fo', h1, h2, h3, h4, h5, h6, h7, h8, h9, h10, h11, h12⟩ := u
  rw [hn] at h1; cases h1
  refine ⟨pre', post', Fo', h8, by rw [h2]; simp; omega, fun hi => ?_, fun hi => ?_, fun hi => ?_, fun hi => ?_⟩
  · cases E2 with
    | nil => rw [h2] at hi; simp at hi; omega
    | cons e E2 =>
      obtain ⟨B', rfl, _⟩ := nd_of_rt h7
      rw [h11, h2, List.getElem?_append_right (by omega), h4]
      simp
  · have hln : n.es.length = E1.length + E2.length := by rw [h2]; simp
    have : E2 = [] := List.eq_nil_of_length_eq_zero (by omega)
    subst this
    cases K2 with
    | cons k K2 => exact h7.elim
    | nil => obtain ⟨rfl, rfl⟩ := h7; simpa using h11
  · have e1 : E1 ≠ [] := fun q => by rw [q] at h4; simp at h4; omega
    obtain ⟨E0, e, rfl⟩ : ∃ E0 e, E1 = E0 ++ [e] := ⟨_, _, (List.dropLast_concat_getLast e1).symm⟩
    have hlK := lf_len h6
    have e2 : K1 ≠ [] := fun q => by rw [q] at hlK; simp at hlK
    obtain ⟨K0, l, rfl⟩ : ∃ K0 l, K1 = K0 ++ [l] := ⟨_, _, (List.dropLast_concat_getLast e2).symm⟩
    obtain ⟨A0, FA0, A1, FA1, g1, g2, rfl, rfl⟩ := lf_split (by simpa using hlK) h6
    obtain ⟨Ll, Fl, A2, F2, g3, ⟨rfl, rfl⟩, rfl, rfl⟩ := g2
    simp at h4
    rw [h10, h2, ← h4, show E0 ++ [e] ++ E2 = E0 ++ e :: E2 by simp, show E0.length + 1 - 1 = E0.length by omega, List.getElem?_append_right (Nat.le_refl _)]
    simp [← List.append_assoc]
  · have : E1 = [] := List.eq_nil_of_length_eq_zero (by omega)
    subst this
    have : K1 = [] := List.eq_nil_of_length_eq_zero (by rw [lf_len h6]; rfl)
    subst this
    obtain ⟨rfl, rfl⟩ := h6
    simpa using h10

/-- The root has no key: its one kid is the root. -/
theorem Spot.root {h : Nat} {L : List Ent} {F : List Nat} {n : Nr} (s : Spot M f R (h + 1) [] (h + 1) R [] L [] [] F) (hn : M R = some n) (h0 : n.es = []) : ∃ k F', n.ks = [k] ∧ Tr M f h k L F' ∧ Full M f k ∧ F'.Nodup := by
  obtain ⟨n0, F', a, hnd, d⟩ := s.tr
  rw [hn] at a; cases a
  rw [h0] at hnd
  obtain ⟨k, K', L1, F1, B, FB, e0, hp, hr, rfl, rfl⟩ := hnd
  cases K' with
  | cons => exact hr.elim
  | nil =>
    obtain ⟨rfl, rfl⟩ := hr
    refine ⟨k, F1, e0, by simpa using hp.1, hp.2, ?_⟩
    have := s.nd
    rw [d] at this
    simpa using (List.nodup_cons.1 (by simpa using this)).2

/-! ### How deep a tree is -/

theorem rt_size {P : Nat → List Ent → List Nat → Prop} {c : Nat} (hP : ∀ k L F, P k L F → c ≤ L.length + 1) : ∀ {E : List Ent} {K : List Nat} {B : List Ent} {F : List Nat}, Rt P E K B F → E.length * c ≤ B.length
  | [], [], _, _, _ => by simp
  | e :: E, k :: K, B, F, ⟨L, F1, B2, F2, hp, h, e1, _⟩ => by
    have h1 := hP _ _ _ hp
    have h2 := rt_size hP h
    rw [e1, List.length_cons, Nat.succ_mul]
    simp
    omega
  | [], _ :: _, _, _, h => h.elim
  | _ :: _, [], _, _, h => h.elim
theorem nd_size {P : Nat → List Ent → List Nat → Prop} {c : Nat} (hP : ∀ k L F, P k L F → c ≤ L.length + 1) {E L : List Ent} {K F : List Nat} (h : Nd P K E L F) : (E.length + 1) * c ≤ L.length + 1 := by
  obtain ⟨k, K', L1, F1, B, FB, _, hp, hr, rfl, _⟩ := h
  have h1 := hP _ _ _ hp
  have h2 := rt_size hP hr
  rw [Nat.succ_mul]
  simp
  omega
theorem Tr.size : ∀ {h b : Nat} {L : List Ent} {F : List Nat}, Tr M f h b L F → Full M f b → ((f + 1) / 2) ^ (h + 1) ≤ L.length + 1
  | 0, b, L, F, ⟨n, h1, h2, h3, h4⟩, ⟨n0, g1, g2⟩ => by
    rw [h1] at g1; cases g1
    rw [← h3]
    simp
    omega
  | h + 1, b, L, F, ⟨n, F', h1, h2, h3⟩, ⟨n0, g1, g2⟩ => by
    rw [h1] at g1; cases g1
    have := nd_size (c := ((f + 1) / 2) ^ (h + 1)) (fun k L F hp => Tr.size hp.1 hp.2) h2
    refine Nat.le_trans ?_ this
    rw [Nat.pow_succ, Nat.mul_comm]
    exact Nat.mul_le_mul_right _ (by omega)
theorem Gd.size {L : List Ent} {F : List Nat} (g : Gd M f R H L F) (hH : H ≠ 0) : 2 * ((f + 1) / 2) ^ H ≤ L.length + 1 := by
  obtain ⟨n, h1, h2⟩ := g.one hH
  cases H with
  | zero => exact absurd rfl hH
  | succ h =>
    obtain ⟨n0, F', a, hnd, _⟩ := g.tr
    rw [h1] at a; cases a
    have := nd_size (c := ((f + 1) / 2) ^ (h + 1)) (fun k L F hp => Tr.size hp.1 hp.2) hnd
    refine Nat.le_trans (Nat.mul_le_mul_right _ ?_) this
    omega
end

end Go.Proofs.Ytkfoddblgdmabaa.tr

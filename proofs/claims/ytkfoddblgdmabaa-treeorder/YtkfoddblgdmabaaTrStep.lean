/- Layer 10, plain mathematics: what a walk down comes to; what puts, splits and joins make of a tree. -/
import Derived.Test.YtkfoddblgdmabaaTrMath
namespace Go.Proofs.Ytkfoddblgdmabaa.tr
open Go.RowKit

/-- A list with something at a place. -/
def insL {α : Type} (i : Nat) (x : α) (l : List α) : List α := l.take i ++ x :: l.drop i
theorem insL_app {α : Type} {i : Nat} {x : α} {A B : List α} (h : A.length = i) : insL i x (A ++ B) = A ++ x :: B := by
  subst h
  simp [insL]
theorem insL_len {α : Type} (i : Nat) (x : α) (l : List α) : (insL i x l).length = l.length + 1 := by
  simp [insL]
  omega
theorem cut_at {α : Type} (i : Nat) (l : List α) (h : i ≤ l.length) : l = l.take i ++ l.drop i ∧ (l.take i).length = i := by
  simp [h]
theorem cut_in {α : Type} (i : Nat) (l : List α) (x : α) (h : l[i]? = some x) : l = l.take i ++ x :: l.drop (i + 1) ∧ (l.take i).length = i := by
  have hi : i < l.length := (List.getElem?_eq_some_iff.1 h).1
  refine ⟨?_, by simp; omega⟩
  have : l.drop i = x :: l.drop (i + 1) := by
    rw [List.drop_eq_getElem_cons hi]
    rw [List.getElem?_eq_getElem hi] at h
    simp at h
    rw [h]
  rw [← this, List.take_append_drop]

section
variable {M M' : Mp} {f R H : Nat}

theorem rt_dom {P : Nat → List Ent → List Nat → Prop} {D : Nat → Prop} (hP : ∀ k L F, P k L F → ∀ x ∈ F, D x) : ∀ {E : List Ent} {K : List Nat} {B : List Ent} {F : List Nat}, Rt P E K B F → ∀ x ∈ F, D x
  | [], [], _, _, ⟨_, e⟩ => by rw [e]; simp
  | e :: E, k :: K, B, F, ⟨L, F1, B2, F2, hp, h, _, e2⟩ => by
    rw [e2]
    intro x hx
    rcases List.mem_append.1 hx with hx | hx
    · exact hP _ _ _ hp x hx
    · exact rt_dom hP h x hx
  | [], _ :: _, _, _, h => h.elim
  | _ :: _, [], _, _, h => h.elim
theorem lf_dom {P : Nat → List Ent → List Nat → Prop} {D : Nat → Prop} (hP : ∀ k L F, P k L F → ∀ x ∈ F, D x) : ∀ {K : List Nat} {E : List Ent} {B : List Ent} {F : List Nat}, Lf P K E B F → ∀ x ∈ F, D x
  | [], [], _, _, ⟨_, e⟩ => by rw [e]; simp
  | k :: K, e :: E, B, F, ⟨L, F1, B2, F2, hp, h, _, e2⟩ => by
    rw [e2]
    intro x hx
    rcases List.mem_append.1 hx with hx | hx
    · exact hP _ _ _ hp x hx
    · exact lf_dom hP h x hx
  | [], _ :: _, _, _, h => h.elim
  | _ :: _, [], _, _, h => h.elim
theorem Tr.all : ∀ {h b : Nat} {L : List Ent} {F : List Nat}, Tr M f h b L F → ∀ x ∈ F, M x ≠ none
  | 0, b, L, F, ⟨n, h1, h2, h3, h4⟩ => by rw [h4]; intro x hx; simp at hx; subst hx; rw [h1]; simp
  | h + 1, b, L, F, ⟨n, F', h1, ⟨k, K', L1, F1, B, FB, _, hp, hr, _, e2⟩, h3⟩ => by
    subst h3 e2
    intro x hx
    rcases List.mem_cons.1 hx with rfl | hx
    · rw [h1]; simp
    · rcases List.mem_append.1 hx with hx | hx
      · exact Tr.all hp.1 x hx
      · exact rt_dom (D := fun x => M x ≠ none) (fun k L F hp => Tr.all hp.1) hr x hx
theorem Up.all : ∀ {up : List (Nat × Nat)} {h b : Nat} {pre post : List Ent} {Fo : List Nat}, Up M f R H up h b pre post Fo → ∀ x ∈ Fo, M x ≠ none
  | [], _, _, _, _, _, ⟨_, _, _, _, e⟩ => by rw [e]; simp
  | (p, i) :: up, h, b, pre, post, Fo, ⟨n, E1, E2, K1, K2, A, FA, B, FB, pre', post', Fo', h1, h2, h3, h4, h5, h6, h7, h8, h9, h10, h11, h12⟩ => by
    subst h12
    intro x hx
    rcases List.mem_cons.1 hx with rfl | hx
    · rw [h1]; simp
    · rcases List.mem_append.1 hx with hx | hx
      · rcases List.mem_append.1 hx with hx | hx
        · exact lf_dom (D := fun x => M x ≠ none) (fun k L F hp => Tr.all hp.1) h6 x hx
        · exact rt_dom (D := fun x => M x ≠ none) (fun k L F hp => Tr.all hp.1) h7 x hx
      · exact Up.all h8 x hx

/-- A node in its tree. -/
structure Spot (M : Mp) (f R H : Nat) (up : List (Nat × Nat)) (h b : Nat) (pre L post : List Ent) (Fo F : List Nat) : Prop where
  up : Up M f R H up h b pre post Fo
  tr : Tr M f h b L F
  nd : (Fo ++ F).Nodup

theorem Gd.spot {L : List Ent} {F : List Nat} (g : Gd M f R H L F) : Spot M f R H [] H R [] L [] [] F := ⟨⟨rfl, rfl, rfl, rfl, rfl⟩, g.tr, by simpa using g.nd⟩
theorem Spot.good {up : List (Nat × Nat)} {h b : Nat} {pre L post : List Ent} {Fo F : List Nat} (s : Spot M f R H up h b pre L post Fo F) (hf : up ≠ [] → Full M f b) (h1 : up = [] → h ≠ 0 → ∃ n, M b = some n ∧ 1 ≤ n.es.length) (hs : Srt (pre ++ L ++ post)) : ∃ F', Gd M f R H (pre ++ L ++ post) F' := by
  obtain ⟨F', t, p, q⟩ := s.up.plug s.tr hf
  refine ⟨F', t, fun hH => ?_, p.nodup_iff.2 s.nd, hs⟩
  cases up with
  | nil =>
    obtain ⟨e1, e2, _⟩ := s.up
    subst e1 e2
    exact h1 rfl hH
  | cons u up => exact q (by simp)

/-- Down to a kid. -/
theorem Spot.kid {up : List (Nat × Nat)} {h b : Nat} {pre L post : List Ent} {Fo F : List Nat} {n : Nr} {i : Nat} (s : Spot M f R H up (h + 1) b pre L post Fo F) (hn : M b = some n) (h1 : 1 ≤ n.es.length) (hf : up ≠ [] → Full M f b) (hi : i ≤ n.es.length) :
    ∃ k A L' B FA F' FB, n.ks[i]? = some k ∧ L = A ++ L' ++ B ∧ Spot M f R H ((b, i) :: up) h k (pre ++ A) L' (B ++ post) (b :: (FA ++ FB ++ Fo)) F' ∧ Full M f k ∧ Lf (Kid M f h) (n.ks.take i) (n.es.take i) A FA ∧ Rt (Kid M f h) (n.es.drop i) (n.ks.drop (i + 1)) B FB := by
  obtain ⟨n', F', e1, hnd, e2⟩ := s.tr
  rw [hn] at e1; cases e1
  have hl := nd_len hnd
  obtain ⟨k, hk⟩ : ∃ k, n.ks[i]? = some k := ⟨_, List.getElem?_eq_getElem (by omega)⟩
  obtain ⟨c1, c2⟩ := cut_in i n.ks k hk
  obtain ⟨c3, c4⟩ := cut_at i n.es hi
  have hnd' := hnd
  rw [c1, c3] at hnd'
  obtain ⟨A, FA, Lk, Fk, B, FB, g1, g2, g3, g4, g5⟩ := nd_at (by omega) hnd'
  refine ⟨k, A, Lk, B, FA, Fk, FB, hk, g4, ⟨⟨n, n.es.take i, n.es.drop i, n.ks.take i, n.ks.drop (i + 1), A, FA, B, FB, pre, post, Fo, hn, c3, c1, c4, h1, g1, g3, s.up, hf, rfl, rfl, rfl⟩, g2.1, ?_⟩, g2.2, g1, g3⟩
  have := s.nd
  rw [e2, g5] at this
  refine (List.Perm.nodup_iff ?_).1 this
  refine (List.perm_append_comm).trans ?_
  simp only [List.cons_append, List.append_assoc]
  refine List.Perm.cons b (List.Perm.append_left FA ?_)
  refine (List.perm_append_comm).trans ?_
  simp only [List.append_assoc]
  refine List.Perm.append_left FB (List.Perm.append_left Fo (List.Perm.refl _))

/-- An entry and a node more, above a node that was split. -/
theorem Spot.put_up {p i : Nat} {up : List (Nat × Nat)} {h b r : Nat} {pre L1 L2 post : List Ent} {e : Ent} {Fo F1 F2 : List Nat} {n n' : Nr} (s : Spot M f R H ((p, i) :: up) h b pre L1 post Fo F1) (t : Tr M f h r L2 F2) (hb : Full M f b) (hr : Full M f r) (hd : (Fo ++ F1 ++ F2).Nodup)
    (hn : M p = some n) (he : n'.es = insL i e n.es) (hk : n'.ks = insL (i + 1) r n.ks) :
    ∃ pre' L' post' Fo' F', Spot (M.put p n') f R H up (h + 1) p pre' L' post' Fo' F' ∧ pre ++ (L1 ++ e :: L2) ++ post = pre' ++ L' ++ post' ∧ (up ≠ [] → Full (M.put p n') f p) := by
  obtain ⟨n0, E1, E2, K1, K2, A, FA, B, FB, pre', post', Fo', h1, h2, h3, h4, h5, h6, h7, h8, h9, h10, h11, h12⟩ := s.up
  rw [hn] at h1; cases h1
  subst h10 h11 h12
  have hd' := hd
  simp only [List.cons_append, List.nodup_cons, List.append_assoc, List.mem_append, not_or] at hd'
  obtain ⟨⟨q1, q2, q3, q4, q5⟩, hd'⟩ := hd'
  have hc : ∀ x, x ≠ p → (M.put p n') x = M x := fun x hx => Mp.put_other M n' hx
  have ne : ∀ {x : Nat} {G : List Nat}, p ∉ G → x ∈ G → x ≠ p := fun hp hx e => hp (e ▸ hx)
  have hlK : K1.length = i := by rw [lf_len h6, h4]
  have kb : Kid (M.put p n') f h b L1 F1 := Kid.congr (fun x hx => hc x (ne q4 hx)) ⟨s.tr, hb⟩
  have kr : Kid (M.put p n') f h r L2 F2 := Kid.congr (fun x hx => hc x (ne q5 hx)) ⟨t, hr⟩
  have lf := lf_congr (M' := M.put p n') (fun x hx => hc x (ne q1 hx)) h6
  have rt := rt_congr (M' := M.put p n') (fun x hx => hc x (ne q2 hx)) h7
  have rt2 : Rt (Kid (M.put p n') f h) (e :: E2) (r :: K2) (e :: (L2 ++ B)) (F2 ++ FB) := ⟨L2, F2, B, FB, kr, rt, rfl, rfl⟩
  have hnd := nd_of lf kb rt2
  have e1 : n'.es = E1 ++ e :: E2 := by rw [he, h2]; exact insL_app h4
  have e2 : n'.ks = K1 ++ b :: r :: K2 := by
    rw [hk, h3, show K1 ++ b :: K2 = (K1 ++ [b]) ++ K2 by simp, insL_app (by simp [hlK])]
    simp
  rw [← e1, ← e2] at hnd
  refine ⟨pre', A ++ L1 ++ e :: (L2 ++ B), post', Fo', p :: (FA ++ F1 ++ (F2 ++ FB)), ⟨h8.congr (fun x hx => hc x (ne q3 hx)), ⟨n', _, Mp.put_same _ _ _, hnd, rfl⟩, ?_⟩, by simp, fun q => ?_⟩
  · refine (List.Perm.nodup_iff ?_).1 hd
    simp only [List.cons_append, List.append_assoc]
    refine List.Perm.trans ?_ (List.perm_middle.symm)
    refine List.Perm.cons p ?_
    refine List.Perm.trans (l₂ := FB ++ (Fo' ++ (FA ++ (F1 ++ F2)))) ?_ ?_
    · refine (List.perm_append_comm (l₁ := FA)).trans ?_
      simp only [List.append_assoc]
      refine List.Perm.append_left FB (List.Perm.append_left Fo' ?_)
      refine (List.perm_append_comm (l₁ := F1 ++ F2) (l₂ := FA)).symm.trans ?_ |>.symm
      simp
    · refine (List.perm_append_comm (l₁ := FB)).trans ?_
      simp
  · obtain ⟨n0, g1, g2⟩ := h9 q
    rw [hn] at g1; cases g1
    exact ⟨n', Mp.put_same _ _ _, by rw [he, insL_len]; omega⟩

/-- A node that is split. -/
theorem Tr.split {h b r : Nat} {L El Er : List Ent} {e : Ent} {F : List Nat} {n nl nr : Nr} (t : Tr M f h b L F) (hd : F.Nodup) (hn : M b = some n) (hr : M r = none)
    (he : n.es = El ++ e :: Er) (hl : nl.es = El) (hlk : nl.ks = n.ks.take (El.length + 1)) (hre : nr.es = Er) (hrk : nr.ks = n.ks.drop (El.length + 1)) :
    ∃ L1 L2 F1 F2, Tr ((M.put b nl).put r nr) f h b L1 F1 ∧ Tr ((M.put b nl).put r nr) f h r L2 F2 ∧ L = L1 ++ e :: L2 ∧ (F1 ++ F2).Perm (r :: F) := by
  have hbr : b ≠ r := fun q => by rw [q, hr] at hn; cases hn
  have hrF : r ∉ F := fun q => t.all r q hr
  have mb : ((M.put b nl).put r nr) b = some nl := by rw [Mp.put_other _ _ hbr, Mp.put_same]
  have mr : ((M.put b nl).put r nr) r = some nr := Mp.put_same _ _ _
  cases h with
  | zero =>
    obtain ⟨n', e1, e2, e3, e4⟩ := t
    rw [hn] at e1; cases e1
    rw [e2] at hlk hrk
    refine ⟨El, Er, [b], [r], ⟨nl, mb, by rw [hlk]; simp, hl, rfl⟩, ⟨nr, mr, by rw [hrk]; simp, hre, rfl⟩, by rw [← e3, he], ?_⟩
    rw [e4]
    exact List.Perm.swap r b []
  | succ h =>
    obtain ⟨n', F', e1, e2, e3⟩ := t
    rw [hn] at e1; cases e1
    have hlen := nd_len e2
    rw [he, ← List.take_append_drop (El.length + 1) n.ks] at e2
    obtain ⟨L1, L2, F1, F2, g1, g2, g3, g4⟩ := nd_cut (by rw [he] at hlen; simp at hlen ⊢; omega) e2
    subst e3 g4
    have hc : ∀ x ∈ F1 ++ F2, ((M.put b nl).put r nr) x = M x := fun x hx => by
      rw [Mp.put_other _ _ (fun q => hrF (by rw [← q]; exact List.mem_cons_of_mem _ hx)), Mp.put_other _ _ (fun q => by rw [q] at hx; exact (List.nodup_cons.1 hd).1 hx)]
    refine ⟨L1, L2, b :: F1, r :: F2, ⟨nl, F1, mb, ?_, rfl⟩, ⟨nr, F2, mr, ?_, rfl⟩, g3, ?_⟩
    · rw [hl, hlk]
      exact nd_mono (fun k L G hG hp => Kid.congr (fun x hx => hc x (List.mem_append_left _ (hG x hx))) hp) g1
    · rw [hre, hrk]
      exact nd_mono (fun k L G hG hp => Kid.congr (fun x hx => hc x (List.mem_append_right _ (hG x hx))) hp) g2
    · refine (List.perm_append_comm).trans ?_
      refine List.Perm.cons r ?_
      refine (List.perm_append_comm).trans ?_
      simp

/-- Two kids that are joined, with the entry between them. -/
theorem joined {p h l r : Nat} {E1 E2 A B Ll Lr : List Ent} {e : Ent} {K1 K2 FA FB Fl Fr Fo : List Nat} {nl nr nj np : Nr}
    (lf : Lf (Kid M f h) K1 E1 A FA) (tl : Tr M f h l Ll Fl) (tr : Tr M f h r Lr Fr) (rt : Rt (Kid M f h) E2 K2 B FB) (hd : (p :: (FA ++ Fl ++ Fr ++ FB ++ Fo)).Nodup)
    (hl : M l = some nl) (hr : M r = some nr) (je : nj.es = nl.es ++ e :: nr.es) (jk : nj.ks = nl.ks ++ nr.ks) :
    (∃ Fj, Tr ((M.put l nj).put p np) f h l (Ll ++ e :: Lr) Fj ∧ (r :: Fj).Perm (Fl ++ Fr)) ∧ Lf (Kid ((M.put l nj).put p np) f h) K1 E1 A FA ∧ Rt (Kid ((M.put l nj).put p np) f h) E2 K2 B FB ∧ (∀ x ∈ Fo, ((M.put l nj).put p np) x = M x) ∧ ((M.put l nj).put p np) l = some nj ∧ r ∉ FA ++ FB ++ Fo := by
  simp only [List.nodup_cons, List.append_assoc, List.mem_append, not_or] at hd
  obtain ⟨⟨q1, q2, q3, q4, q5⟩, hd⟩ := hd
  simp only [List.nodup_append] at hd
  obtain ⟨dA, ⟨dl, ⟨dr, ⟨dB, dO, x1⟩, x2⟩, x3⟩, x4⟩ := hd
  have ml := tl.mem
  have mr := tr.mem
  have hlp : l ≠ p := fun q => q2 (by rw [← q]; exact ml)
  have hc : ∀ x, x ≠ p → x ≠ l → ((M.put l nj).put p np) x = M x := fun x h1 h2 => by rw [Mp.put_other _ _ h1, Mp.put_other _ _ h2]
  have hm : ((M.put l nj).put p np) l = some nj := by rw [Mp.put_other _ _ hlp, Mp.put_same]
  refine ⟨?_, lf_congr (fun x hx => hc x (fun q => q1 (q ▸ hx)) (fun q => x4 x hx l (by simp [ml]) q)) lf, rt_congr (fun x hx => hc x (fun q => q4 (q ▸ hx)) (fun q => x3 l ml x (by simp [hx]) q.symm)) rt, fun x hx => hc x (fun q => q5 (q ▸ hx)) (fun q => x3 l ml x (by simp [hx]) q.symm), hm, ?_⟩
  · cases h with
    | zero =>
      obtain ⟨n1, a1, a2, a3, a4⟩ := tl
      obtain ⟨n2, b1, b2, b3, b4⟩ := tr
      rw [hl] at a1; cases a1
      rw [hr] at b1; cases b1
      exact ⟨[l], ⟨nj, hm, by rw [jk, a2, b2]; rfl, by rw [je, a3, b3], rfl⟩, by rw [a4, b4]; exact List.Perm.swap l r []⟩
    | succ h =>
      obtain ⟨n1, F1, a1, a2, a3⟩ := tl
      obtain ⟨n2, F2, b1, b2, b3⟩ := tr
      rw [hl] at a1; cases a1
      rw [hr] at b1; cases b1
      subst a3 b3
      have hj := nd_join e a2 b2
      rw [← je, ← jk] at hj
      refine ⟨l :: (F1 ++ F2), ⟨nj, F1 ++ F2, hm, nd_mono (fun k L G hG hp => Kid.congr (fun x hx => ?_) hp) hj, rfl⟩, ?_⟩
      · have hx' := hG x hx
        rcases List.mem_append.1 hx' with g | g
        · exact hc x (fun q => q2 (q ▸ List.mem_cons_of_mem _ g)) (fun q => (List.nodup_cons.1 dl).1 (q ▸ g))
        · exact hc x (fun q => q3 (q ▸ List.mem_cons_of_mem _ g)) (fun q => x3 l ml x (by simp [g]) q.symm)
      · simp only [List.cons_append]
        refine (List.Perm.swap l r _).trans (List.Perm.cons l ?_)
        exact List.perm_middle.symm
  · simp only [List.mem_append, not_or]
    exact ⟨⟨fun g => x4 r g r (by simp [mr]) rfl, fun g => x2 r mr r (by simp [g]) rfl⟩, fun g => x2 r mr r (by simp [g]) rfl⟩
end

end Go.Proofs.Ytkfoddblgdmabaa.tr

/- Layer 10, plain mathematics: what is near a key, by the way that leads to it. -/
import Derived.Test.YtkfoddblgdmabaaTrCut
namespace Go.Proofs.Ytkfoddblgdmabaa.tr
open Go.RowKit

/-- The least entry that is not below a key; the greatest that is below it. -/
def atL (key : ByteArray) (T : List Ent) : Option Ent := T[pos key T]?
def beL (key : ByteArray) (T : List Ent) : Option Ent := if pos key T = 0 then none else T[pos key T - 1]?
theorem atL_eq {A C : List Ent} {e : Ent} {key : ByteArray} (h : pos key (A ++ e :: C) = A.length) : atL key (A ++ e :: C) = some e := by
  unfold atL
  rw [h]
  simp
theorem atL_end {A : List Ent} {key : ByteArray} (h : pos key A = A.length) : atL key A = none := by
  unfold atL
  rw [h]
  simp
theorem beL_eq {A C : List Ent} {e : Ent} {key : ByteArray} (h : pos key ((A ++ [e]) ++ C) = (A ++ [e]).length) : beL key ((A ++ [e]) ++ C) = some e := by
  unfold beL
  rw [h, if_neg (by simp)]
  simp
theorem beL_none {C : List Ent} {key : ByteArray} (h : pos key C = 0) : beL key C = none := by
  unfold beL
  rw [if_pos h]
theorem snoc_of {α : Type} (l : List α) {j : Nat} {e : α} (h : l.length = j + 1) (he : l[j]? = some e) : ∃ l', l = l' ++ [e] := by
  obtain ⟨c1, c2⟩ := cut_in j l e he
  exact ⟨l.take j, by rw [show l.drop (j + 1) = [] by rw [← h]; simp] at c1; exact c1⟩

/-- To be looked at, from the lowest spot of a way up. -/
def Nx (M : Mp) (T : List Ent) (key : ByteArray) : List (Nat × Nat) → Prop
  | [] => atL key T = none
  | (p, i) :: up => ∃ n, M p = some n ∧ n.es.length ≤ T.length ∧ i ≤ n.es.length ∧ (∀ e, n.es[i]? = some e → atL key T = some e) ∧ (i = n.es.length → Nx M T key up)
def Bx (M : Mp) (T : List Ent) (key : ByteArray) : List (Nat × Nat) → Prop
  | [] => beL key T = none
  | (p, i) :: up => ∃ n, M p = some n ∧ n.es.length ≤ T.length ∧ i ≤ n.es.length ∧ (∀ j e, i = j + 1 → n.es[j]? = some e → beL key T = some e) ∧ (i = 0 → Bx M T key up)

section
variable {M : Mp} {f R H : Nat}
theorem Up.nx : ∀ {up : List (Nat × Nat)} {h b : Nat} {pre post : List Ent} {Fo : List Nat} {T X : List Ent} {key : ByteArray}, Up M f R H up h b pre post Fo → T = X ++ post → pre.length ≤ X.length → pos key T = X.length → Nx M T key up
  | [], h, b, pre, post, Fo, T, X, key, u, hT, _, hp => by
    obtain ⟨_, _, _, h4, _⟩ := u
    subst h4
    rw [List.append_nil] at hT
    subst hT
    exact atL_end hp
  | (p, i) :: up, h, b, pre, post, Fo, T, X, key, ⟨n, E1, E2, K1, K2, A, FA, B, FB, pre', post', Fo', h1, h2, h3, h4, h5, h6, h7, h8, h9, h10, h11, h12⟩, hT, hl, hp => by
    have a1 := lf_size h6
    have a2 := (rt_sub h7).length_le
    have hl2 := congrArg List.length hT
    rw [h11] at hl2
    rw [h10] at hl
    simp only [List.length_append] at hl2 hl
    refine ⟨n, h1, by rw [h2, List.length_append]; omega, by rw [h2, List.length_append]; omega, fun e he => ?_, fun hie => ?_⟩
    · rw [h2, List.getElem?_append_right (by omega), h4, Nat.sub_self] at he
      cases E2 with
      | nil => cases he
      | cons x E2 =>
        cases he
        cases K2 with
        | nil => exact h7.elim
        | cons k K2 =>
          obtain ⟨L, g1, _⟩ := nd_of_rt h7
          subst g1 h11 hT
          exact atL_eq hp
    · have hE2 : E2 = [] := by
        rw [h2, List.length_append] at hie
        exact List.eq_nil_of_length_eq_zero (by omega)
      subst hE2
      cases K2 with
      | cons k K2 => exact h7.elim
      | nil =>
        obtain ⟨g1, _⟩ := h7
        subst g1
        rw [List.nil_append] at h11
        subst h11
        exact Up.nx h8 hT (by omega) hp
theorem Up.bx : ∀ {up : List (Nat × Nat)} {h b : Nat} {pre post : List Ent} {Fo : List Nat} {T Y : List Ent} {key : ByteArray}, Up M f R H up h b pre post Fo → T = pre ++ Y → post.length ≤ Y.length → pos key T = pre.length → Bx M T key up
  | [], h, b, pre, post, Fo, T, Y, key, u, hT, _, hp => by
    obtain ⟨_, _, h3, _, _⟩ := u
    subst h3
    exact beL_none hp
  | (p, i) :: up, h, b, pre, post, Fo, T, Y, key, ⟨n, E1, E2, K1, K2, A, FA, B, FB, pre', post', Fo', h1, h2, h3, h4, h5, h6, h7, h8, h9, h10, h11, h12⟩, hT, hl, hp => by
    have a1 := lf_size h6
    have a2 := (rt_sub h7).length_le
    have hl2 := congrArg List.length hT
    rw [h10] at hl2
    rw [h11] at hl
    simp only [List.length_append] at hl2 hl
    refine ⟨n, h1, by rw [h2, List.length_append]; omega, by rw [h2, List.length_append]; omega, fun j e hj he => ?_, fun hi0 => ?_⟩
    · rw [h2, List.getElem?_append_left (by omega)] at he
      obtain ⟨E0, rfl⟩ := snoc_of E1 (by omega) he
      have hK := lf_len h6
      rw [List.length_append, List.length_singleton] at hK
      obtain ⟨k, hk⟩ : ∃ k, K1[E0.length]? = some k := ⟨_, List.getElem?_eq_getElem (by omega)⟩
      obtain ⟨K0, rfl⟩ := snoc_of K1 hK hk
      rw [List.length_append, List.length_singleton] at hK
      obtain ⟨A1, F1, A2, F2, _, g2, g3, _⟩ := lf_split (by omega) h6
      obtain ⟨L, F3, B2, F4, _, ⟨z1, _⟩, z3, _⟩ := g2
      subst z1
      rw [z3] at g3
      subst g3
      have hpre : pre = (pre' ++ (A1 ++ L)) ++ [e] := by rw [h10]; simp
      rw [hpre] at hT hp
      subst hT
      exact beL_eq hp
    · have hE1 : E1 = [] := List.eq_nil_of_length_eq_zero (by omega)
      subst hE1
      cases K1 with
      | cons k K1 => exact h6.elim
      | nil =>
        obtain ⟨g1, _⟩ := h6
        subst g1
        rw [List.append_nil] at h10
        subst h10
        exact Up.bx h8 hT (by omega) hp

theorem Res.nx {T : List Ent} {key : ByteArray} {way : List (Nat × Nat)} {there : Bool} (g : Res M f R H T key way there) (hs : Srt T) : ∃ up q, way = up.reverse ++ [q] ∧ Nx M T key (q :: up) := by
  obtain ⟨up, h, b, pre, L, post, Fo, F, n, hw, s, hT, hn, hlo, hhi, hth, h0, hf, h1⟩ := g.ex
  subst hT
  have hlen := s.len hn
  obtain ⟨E1, E2, c1, c2, c3, c4⟩ := pos_cut key n.es (s.sorted hs hn)
  refine ⟨up, _, hw, n, hn, hlen, pos_le _ _, fun e he => ?_, fun hie => ?_⟩
  · rcases c4 with c4 | ⟨x, E', rfl, ex, c4⟩
    · -- not there: an end
      have ht : there = false := by rw [hth, c1]; exact hasL_new c3 c4
      have e0 := h0 ht
      subst e0
      obtain ⟨n', e1, e2, e3, e4⟩ := s.tr
      rw [hn] at e1; cases e1
      rw [c1, ← c1, ← c2, c1, List.getElem?_append_right (Nat.le_refl _), Nat.sub_self] at he
      cases E2 with
      | nil => cases he
      | cons y E2 =>
        cases he
        rw [← e3, c1, show pre ++ (E1 ++ e :: E2) ++ post = (pre ++ E1) ++ e :: (E2 ++ post) by simp]
        refine atL_eq (pos_hi (Lo.app.2 ⟨hlo, c3⟩) ?_)
        rw [← List.cons_append]
        exact Hi.app.2 ⟨c4, hhi⟩
    · rw [← c2, c1, List.getElem?_append_right (Nat.le_refl _), Nat.sub_self] at he
      cases he
      have hmem : e ∈ pre ++ L ++ post := by
        have := (s.tr.es_sub hn).subset (show e ∈ n.es by rw [c1]; simp)
        simp [this]
      obtain ⟨A, C, hAC⟩ := List.append_of_mem hmem
      rw [hAC] at hs ⊢
      exact atL_eq (pos_at (ex ▸ lo_of hs) (by rw [ex]; exact ltS_irrefl _))
  · -- nothing here
    rcases c4 with c4 | ⟨x, E', rfl, ex, c4⟩
    · have ht : there = false := by rw [hth, c1]; exact hasL_new c3 c4
      have e0 := h0 ht
      subst e0
      obtain ⟨n', e1, e2, e3, e4⟩ := s.tr
      rw [hn] at e1; cases e1
      have hE2 : E2 = [] := by
        have := congrArg List.length c1
        rw [List.length_append] at this
        exact List.eq_nil_of_length_eq_zero (by omega)
      subst hE2
      rw [List.append_nil] at c1
      refine s.up.nx (X := pre ++ L) rfl (by simp) (pos_hi (Lo.app.2 ⟨hlo, by rw [← e3, c1]; exact c3⟩) hhi)
    · have := congrArg List.length c1
      rw [List.length_append, List.length_cons] at this
      omega

theorem Res.bx {T : List Ent} {key : ByteArray} {way : List (Nat × Nat)} {there : Bool} (g : Res M f R H T key way there) (hs : Srt T) (hf3 : 3 ≤ f) : ∃ up h b i, way = up.reverse ++ [(b, i)] ∧ Lw M f R H up h b i T up h b i ∧ ∀ upc bc jc, Lw M f R H up h b i T upc 0 bc jc → Bx M T key ((bc, jc) :: upc) := by
  obtain ⟨up, h, b, pre, L, post, Fo, F, n, hw, s, hT, hn, hlo, hhi, hth, h0, hf, h1⟩ := g.ex
  refine ⟨up, h, b, pos key n.es, hw, ⟨pre, L, post, Fo, F, n, s, hT, hn, pos_le _ _, hf, h1, Or.inl ⟨rfl, rfl, rfl, rfl⟩⟩, fun upc bc jc lw => ?_⟩
  have hhigh := lw.high
  have hup := s.up.height
  obtain ⟨pre', L', post', Fo', F', nc, s', hT', hnc, hj, hf', h1', hd⟩ := lw.ex
  have hlen' := s'.len hnc
  rw [← hT'] at hlen'
  obtain ⟨E1, E2, c1, c2, c3, c4⟩ := pos_cut key n.es (s.sorted (by rw [← hT]; exact hs) hn)
  rcases hd with ⟨q1, q2, q3, q4⟩ | ⟨hjc, hfull, upl, hq, hupl⟩
  · -- an end
    subst q1 q2 q3 q4
    rw [hn] at hnc; cases hnc
    obtain ⟨n', e1, e2, e3, e4⟩ := s.tr
    rw [hn] at e1; cases e1
    subst e3
    have hpos : pos key T = (pre ++ E1).length := by
      have e5 : T = (pre ++ E1) ++ (E2 ++ post) := by rw [hT, c1]; simp
      rcases c4 with c4 | ⟨x, E', rfl, ex, c4⟩
      · rw [e5]; exact pos_hi (Lo.app.2 ⟨hlo, c3⟩) (Hi.app.2 ⟨c4, hhi⟩)
      · rw [e5, List.cons_append]; exact pos_at (Lo.app.2 ⟨hlo, c3⟩) (by rw [ex]; exact ltS_irrefl _)
    refine ⟨n, hn, hlen', pos_le _ _, fun j e hj he => ?_, fun hi0 => ?_⟩
    · rw [← c2] at hj
      have he2 : E1[j]? = some e := by
        rw [c1, List.getElem?_append_left (by omega)] at he
        exact he
      obtain ⟨E0, rfl⟩ := snoc_of E1 hj he2
      have e5 : T = ((pre ++ E0) ++ [e]) ++ (E2 ++ post) := by rw [hT, c1]; simp
      rw [e5] at hpos ⊢
      exact beL_eq (by rw [hpos]; simp)
    · rw [← c2] at hi0
      have hE1 : E1 = [] := List.eq_nil_of_length_eq_zero hi0
      subst hE1
      rw [List.append_nil] at hpos
      exact s.up.bx (Y := n.es ++ post) (by rw [hT]; simp) (by simp) hpos
  · -- below the entry itself
    subst hq
    simp only [List.length_append, List.length_cons] at hhigh
    have hne : h ≠ 0 := by omega
    have ht : there = true := by
      cases there with
      | true => rfl
      | false => exact absurd (h0 rfl) hne
    rcases c4 with c4 | ⟨x, E', rfl, ex, c4⟩
    · rw [hth, c1, hasL_new c3 c4] at ht; cases ht
    · have hx : n.es[pos key n.es]? = some x := by rw [← c2, c1]; simp
      have hdis := List.nodup_append.1 s'.nd
      obtain ⟨_, post1, hp1, _⟩ := Up.set (n' := ⟨n.ev, n.kv, n.es.set (pos key n.es) x, n.ks⟩) (y := x) s'.up hupl hdis.1 hn hx rfl rfl
      subst hp1
      obtain ⟨n', e1, e2, e3, e4⟩ := s'.tr
      rw [hnc] at e1; cases e1
      subst e3
      have hpos : pos key T = (pre' ++ nc.es).length := by
        rw [hT'] at hs ⊢
        exact pos_at (ex ▸ lo_of hs) (by rw [ex]; exact ltS_irrefl _)
      obtain ⟨nx, g1, g2⟩ := hfull
      rw [hnc] at g1; cases g1
      refine ⟨nc, hnc, hlen', hj, fun j e hjj he => ?_, fun hi0 => by omega⟩
      obtain ⟨E0, hE0⟩ := snoc_of nc.es (by omega) he
      have e5 : T = ((pre' ++ E0) ++ [e]) ++ (x :: post1) := by rw [hT', hE0]; simp
      rw [hE0] at hpos
      rw [e5] at hpos ⊢
      exact beL_eq (by rw [hpos]; simp)
end

end Go.Proofs.Ytkfoddblgdmabaa.tr

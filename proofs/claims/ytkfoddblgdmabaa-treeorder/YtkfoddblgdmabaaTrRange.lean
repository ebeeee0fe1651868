/- Layer 10, plain mathematics: the entries from a key on, as a walk through a node meets them. -/
import Derived.Test.YtkfoddblgdmabaaTrNear
namespace Go.Proofs.Ytkfoddblgdmabaa.tr
open Go.RowKit

/-- The entries from a key on. -/
def rg (key : ByteArray) (L : List Ent) : List Ent := L.dropWhile (fun e => ltS e.key key)
theorem rg_drop (key : ByteArray) (L : List Ent) : rg key L = L.drop (pos key L) := by
  have h : L.takeWhile (fun e => ltS e.key key) ++ L.dropWhile (fun e => ltS e.key key) = L := List.takeWhile_append_dropWhile
  unfold rg pos
  conv => rhs; arg 2; rw [← h]
  rw [List.drop_left]
theorem rg_lo {A C : List Ent} {key : ByteArray} (h : Lo A key) : rg key (A ++ C) = rg key C := by
  induction A with
  | nil => rfl
  | cons a A ih =>
    unfold rg at *
    rw [List.cons_append, List.dropWhile_cons, if_pos (h a (by simp))]
    exact ih (fun e he => h e (by simp [he]))
theorem rg_ge {C : List Ent} {key : ByteArray} (h : ∀ x ∈ C, ltS x.key key = false) : rg key C = C := by
  cases C with
  | nil => rfl
  | cons a C =>
    unfold rg
    rw [List.dropWhile_cons, if_neg (by rw [h a (by simp)]; simp)]
theorem rg_app {A C : List Ent} {key : ByteArray} (h : ∀ x ∈ C, ltS x.key key = false) : rg key (A ++ C) = rg key A ++ C := by
  induction A with
  | nil => exact rg_ge h
  | cons a A ih =>
    unfold rg at *
    rw [List.cons_append, List.dropWhile_cons, List.dropWhile_cons]
    split
    · exact ih
    · rfl
theorem rg_len (key : ByteArray) (L : List Ent) : (rg key L).length ≤ L.length := by
  rw [rg_drop, List.length_drop]
  omega

section
variable {M : Mp} {f : Nat}
/-- Where a walk through a node stands: what came, and what is still to come. -/
structure Es (M : Mp) (f h : Nat) (key : ByteArray) (L : List Ent) (n : Nr) (a : Nat) (P : List Ent) : Prop where
  ex : ∃ K1 k K2 E1 E2 Lk Fk C FB, n.ks = K1 ++ k :: K2 ∧ n.es = E1 ++ E2 ∧ K1.length = a ∧ E1.length = a ∧ Tr M f h k Lk Fk ∧ Lk.length ≤ L.length ∧ Srt Lk ∧ Rt (Kid M f h) E2 K2 C FB ∧ (∀ x ∈ C, ltS x.key key = false) ∧ Srt C ∧ C.length ≤ L.length ∧ rg key L = P ++ (rg key Lk ++ C)

theorem ge_of {E2 C : List Ent} {K2 : List Nat} {F : List Nat} {Pr : Nat → List Ent → List Nat → Prop} {key : ByteArray} (h : Rt Pr E2 K2 C F) (hs : Srt C) (hE : Hi E2 key ∨ ∃ x E', E2 = x :: E' ∧ x.key = key ∧ Hi E' key) : ∀ x ∈ C, ltS x.key key = false := by
  rcases hE with hE | ⟨e, E', rfl, ex, hE⟩
  · exact fun x hx => ltS_asymm (rt_high h hs hE x hx)
  · cases K2 with
    | nil => exact h.elim
    | cons k K2 =>
      obtain ⟨L, hC, _⟩ := nd_of_rt h
      subst hC
      intro x hx
      rcases List.mem_cons.1 hx with rfl | hx
      · rw [ex]; exact ltS_irrefl _
      · have := (Srt.mid (A := []) hs).2.1 x hx
        rw [ex] at this
        exact ltS_asymm this

theorem Tr.es {h b : Nat} {L : List Ent} {F : List Nat} {n : Nr} (t : Tr M f (h + 1) b L F) (hn : M b = some n) (hs : Srt L) (key : ByteArray) : Es M f h key L n (pos key n.es) [] := by
  obtain ⟨n', F', e1, hnd, e2⟩ := t
  rw [hn] at e1; cases e1
  have hl := nd_len hnd
  obtain ⟨E1, E2, c1, c2, c3, c4⟩ := pos_cut key n.es (List.Pairwise.sublist (nd_sub hnd) hs)
  obtain ⟨k, hk⟩ : ∃ k, n.ks[pos key n.es]? = some k := ⟨_, List.getElem?_eq_getElem (by have := pos_le key n.es; omega)⟩
  obtain ⟨d1, d2⟩ := cut_in _ n.ks k hk
  generalize pos key n.es = p at *
  have hnd' := hnd
  rw [d1, c1] at hnd'
  obtain ⟨A, FA, Lk, Fk, C, FB, g1, g2, g3, g4, g5⟩ := nd_at (by rw [d2, c2]) hnd'
  subst g4
  have hs1 : Srt Lk := hs.left.right
  have hs2 : Srt C := hs.right
  have hge := ge_of g3 hs2 (c4.imp id (fun ⟨x, E', q1, q2, q3⟩ => ⟨x, E', q1, q2, q3⟩))
  refine ⟨_, k, _, E1, E2, Lk, Fk, C, FB, d1, c1, d2, c2, g2.1, by simp; omega, hs1, g3, hge, hs2, by simp only [List.length_append]; omega, ?_⟩
  · rw [List.append_assoc, rg_lo (lf_low g1 hs.left.left c3), rg_app hge]
    rfl
theorem Es.next {h a : Nat} {key : ByteArray} {L P : List Ent} {n : Nr} (s : Es M f h key L n a P) : ∃ k Lk Fk, n.ks[a]? = some k ∧ Tr M f h k Lk Fk ∧ Srt Lk ∧ Lk.length ≤ L.length ∧ a ≤ n.es.length ∧ (a = n.es.length → rg key L = P ++ rg key Lk) ∧ (∀ e, n.es[a]? = some e → Es M f h key L n (a + 1) (P ++ rg key Lk ++ [e]) ∧ ∃ C, rg key L = P ++ rg key Lk ++ e :: C) := by
  obtain ⟨K1, k, K2, E1, E2, Lk, Fk, C, FB, h1, h2, h3, h4, h5, h6, h7, h8, h9, h10, h11, h12⟩ := s.ex
  refine ⟨k, Lk, Fk, by rw [h1, List.getElem?_append_right (by omega), h3, Nat.sub_self]; rfl, h5, h7, h6, by rw [h2, List.length_append]; omega, fun hae => ?_, fun e he => ?_⟩
  · have hE : E2 = [] := by
      rw [h2, List.length_append] at hae
      exact List.eq_nil_of_length_eq_zero (by omega)
    subst hE
    cases K2 with
    | cons _ _ => exact h8.elim
    | nil =>
      obtain ⟨g1, _⟩ := h8
      rw [h12, g1, List.append_nil]
  · rw [h2, List.getElem?_append_right (by omega), h4, Nat.sub_self] at he
    cases E2 with
    | nil => cases he
    | cons x E2 =>
      cases he
      cases K2 with
      | nil => exact h8.elim
      | cons k2 K2 =>
        obtain ⟨L2, F1, B2, F2, g1, g2, g3, g4⟩ := h8
        subst g3
        have hs1 := (Srt.cons.1 h10).2
        refine ⟨⟨K1 ++ [k], k2, K2, E1 ++ [e], E2, L2, F1, B2, F2, by rw [h1]; simp, by rw [h2]; simp, by simp [h3], by simp [h4], g1.1, ?_, hs1.left, g2, fun x hx => h9 x (by simp [hx]), hs1.right, ?_, ?_⟩, L2 ++ B2, by rw [h12]; simp⟩
        · simp only [List.length_cons, List.length_append] at h11; omega
        · simp only [List.length_cons, List.length_append] at h11; omega
        · rw [h12, rg_ge (C := L2) (fun x hx => h9 x (by simp [hx]))]
          simp
end

end Go.Proofs.Ytkfoddblgdmabaa.tr

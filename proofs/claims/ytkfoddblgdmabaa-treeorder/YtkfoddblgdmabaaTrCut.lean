/- Layer 10, plain mathematics: an entry taken out, and what is mended above it. -/
import Derived.Test.YtkfoddblgdmabaaTrPut
import Derived.Test.YtkfoddblgdmabaaTrLower
namespace Go.Proofs.Ytkfoddblgdmabaa.tr
open Go.RowKit

section
variable {M M' : Mp} {f R H : Nat}

/-- Where a walk found a key. -/
structure Fd (M : Mp) (f R H : Nat) (T : List Ent) (e : Ent) (up : List (Nat × Nat)) (h b i : Nat) : Prop where
  ex : ∃ pre L post Fo F n, Spot M f R H up h b pre L post Fo F ∧ T = pre ++ L ++ post ∧ M b = some n ∧ n.es[i]? = some e ∧ (up ≠ [] → Full M f b)
/-- Ready to take an entry out of an end. -/
structure Rd (M : Mp) (f R H : Nat) (up : List (Nat × Nat)) (b j : Nat) (T : List Ent) : Prop where
  ex : ∃ pre L1 z L2 post Fo F n, Spot M f R H up 0 b pre (L1 ++ z :: L2) post Fo F ∧ M b = some n ∧ n.es = L1 ++ z :: L2 ∧ L1.length = j ∧ n.es.length ≤ T.length + 1 ∧ T = pre ++ (L1 ++ L2) ++ post
/-- The place from which on all is to be looked at. -/
structure Cu (M : Mp) (f R H : Nat) (up : List (Nat × Nat)) (h b : Nat) (T : List Ent) : Prop where
  ex : ∃ pre L post Fo F, Spot M f R H up h b pre L post Fo F ∧ T = pre ++ L ++ post
structure Cd (M : Mp) (f R H : Nat) (T : List Ent) : Prop where
  ex : ∃ F, Tr M f H R T F ∧ F.Nodup

theorem Res.found {T : List Ent} {key : ByteArray} {way : List (Nat × Nat)} (g : Res M f R H T key way true) (hs : Srt T) : ∃ up h b i e, way = up.reverse ++ [(b, i)] ∧ e.key = key ∧ Fd M f R H T e up h b i := by
  obtain ⟨up, h, b, pre, L, post, Fo, F, n, hw, s, hT, hn, hlo, hhi, hth, h0, hf, h1⟩ := g.ex
  subst hT
  obtain ⟨E1, E2, c1, c2, c3, c4⟩ := pos_cut key n.es (s.sorted hs hn)
  rcases c4 with c4 | ⟨e, E', rfl, ey, c4⟩
  · rw [c1, hasL_new c3 c4] at hth
    cases hth
  · refine ⟨up, h, b, _, e, hw, ey, pre, L, post, Fo, F, n, s, rfl, hn, ?_, hf⟩
    rw [← c2, c1]
    simp

/-- What is ahead of an entry of a sorted list is below it. -/
theorem lo_of {A B : List Ent} {e : Ent} (h : Srt (A ++ e :: B)) : Lo A e.key := h.mid.1

theorem Fd.end0 {T : List Ent} {e : Ent} {up : List (Nat × Nat)} {b i : Nat} (d : Fd M f R H T e up 0 b i) (hs : Srt T) : Rd M f R H up b i (delL e.key T) := by
  obtain ⟨pre, L, post, Fo, F, n, s, hT, hn, hi, hf⟩ := d.ex
  obtain ⟨n', e1, e2, e3, e4⟩ := s.tr
  rw [hn] at e1; cases e1
  obtain ⟨c1, c2⟩ := cut_in i n.es e hi
  generalize n.es.take i = E1 at *
  generalize n.es.drop (i + 1) = E2 at *
  subst e3
  rw [c1] at s hT
  have hT2 : T = (pre ++ E1) ++ e :: (E2 ++ post) := by rw [hT]; simp
  have hd : delL e.key T = pre ++ (E1 ++ E2) ++ post := by
    rw [hT2, delL_old (lo_of (by rw [← hT2]; exact hs))]
    simp
  exact ⟨pre, E1, e, E2, post, Fo, F, n, s, hn, c1, c2, by rw [hd, c1]; simp; omega, hd⟩

theorem Fd.lw {T : List Ent} {e : Ent} {up : List (Nat × Nat)} {h b i : Nat} (d : Fd M f R H T e up h b i) : Lw M f R H up h b i T up h b i := by
  obtain ⟨pre, L, post, Fo, F, n, s, hT, hn, hi, hf⟩ := d.ex
  have hl := (List.getElem?_eq_some_iff.1 hi).1
  exact ⟨pre, L, post, Fo, F, n, s, hT, hn, by omega, hf, fun _ => by omega, Or.inl ⟨rfl, rfl, rfl, rfl⟩⟩

/-- The next lower entry in its place. -/
theorem Fd.swap {T : List Ent} {e : Ent} {up upc : List (Nat × Nat)} {h b i bc jc : Nat} (d : Fd M f R H T e up h b i) (l : Lw M f R H up h b i T upc 0 bc jc) (h0 : h ≠ 0) (hf3 : 3 ≤ f) (hs : Srt T) :
    ∃ n nc y j, jc = j + 1 ∧ M b = some n ∧ n.es[i]? = some e ∧ M bc = some nc ∧ nc.es[j]? = some y ∧ bc ≠ b ∧ ∀ n', n'.es = n.es.set i y → n'.ks = n.ks → Rd (M.put b n') f R H upc bc j (delL e.key T) := by
  obtain ⟨pre, L, post, Fo, F, n, s, hT, hn, hi, hf⟩ := d.ex
  obtain ⟨pre', L', post', Fo', F', nc, s', hT', hnc, hj, hf', h1', hd⟩ := l.ex
  rcases hd with ⟨_, q, _⟩ | ⟨hjc, hfull, upl, rfl, hupl⟩
  · exact absurd q.symm h0
  obtain ⟨nx, g1, g2⟩ := hfull
  rw [hnc] at g1; cases g1
  obtain ⟨j, rfl⟩ : ∃ j, jc = j + 1 := ⟨jc - 1, by omega⟩
  obtain ⟨y, hy⟩ : ∃ y, nc.es[j]? = some y := ⟨_, List.getElem?_eq_getElem (by omega)⟩
  obtain ⟨c1, c2⟩ := cut_in j nc.es y hy
  have hdr : nc.es.drop (j + 1) = [] := by rw [hjc]; simp
  rw [hdr] at c1
  generalize nc.es.take j = E at *
  obtain ⟨n', e1, e2, e3, e4⟩ := s'.tr
  rw [hnc] at e1; cases e1
  have hdis := List.nodup_append.1 s'.nd
  have hbF : b ∈ Fo' ∧ ∃ post1, post' = e :: post1 ∧ ∀ n', n'.es = n.es.set i y → n'.ks = n.ks → Up (M.put b n') f R H (upl ++ (b, i) :: up) 0 bc pre' (y :: post1) Fo' := by
    obtain ⟨q1, post1, q2, q3⟩ := Up.set (n' := ⟨n.ev, n.kv, n.es.set i y, n.ks⟩) (y := y) s'.up hupl hdis.1 hn hi rfl rfl
    refine ⟨q1, post1, q2, fun n' a1 a2 => ?_⟩
    obtain ⟨_, post2, z2, z3⟩ := Up.set (n' := n') (y := y) s'.up hupl hdis.1 hn hi a1 a2
    rw [q2] at z2
    cases z2
    exact z3
  obtain ⟨hb, post1, rfl, hset⟩ := hbF
  have hne : bc ≠ b := fun q => hdis.2.2 b hb bc s'.tr.mem q.symm
  refine ⟨n, nc, y, j, rfl, hn, hi, hnc, hy, hne, fun n' a1 a2 => ?_⟩
  subst e3 e4
  have hT2 : T = (pre' ++ (E ++ [y])) ++ e :: post1 := by rw [hT', ← c1]
  have hd : delL e.key T = pre' ++ (E ++ []) ++ (y :: post1) := by
    rw [hT2, delL_old (lo_of (by rw [← hT2]; exact hs))]
    simp
  refine ⟨pre', E, y, [], y :: post1, Fo', [bc], nc, ⟨hset n' a1 a2, ⟨nc, by rw [Mp.put_other _ _ hne]; exact hnc, e2, c1, rfl⟩, s'.nd⟩, by rw [Mp.put_other _ _ hne]; exact hnc, c1, c2, ?_, hd⟩
  rw [hd, c1]
  simp
  omega

/-- Taken out. -/
theorem Rd.out {T : List Ent} {up : List (Nat × Nat)} {b j : Nat} (d : Rd M f R H up b j T) : ∃ n z, M b = some n ∧ n.es[j]? = some z ∧ n.es.length ≤ T.length + 1 ∧ ∀ n', n'.es = n.es.take j ++ n.es.drop (j + 1) → n'.ks = n.ks → Cu (M.put b n') f R H up 0 b T := by
  obtain ⟨pre, L1, z, L2, post, Fo, F, n, s, hn, he, hj, hl, hT⟩ := d.ex
  obtain ⟨n0, e1, e2, e3, e4⟩ := s.tr
  rw [hn] at e1; cases e1
  refine ⟨n, z, hn, by rw [he, ← hj]; simp, hl, fun n' a1 a2 => ?_⟩
  have hdis := List.nodup_append.1 s.nd
  have hb : b ∉ Fo := fun q => hdis.2.2 b q b s.tr.mem rfl
  refine ⟨pre, L1 ++ L2, post, Fo, F, ⟨s.up.congr (fun x hx => Mp.put_other M n' (fun q => hb (q ▸ hx))), ⟨n', Mp.put_same _ _ _, by rw [a2, e2], ?_, e4⟩, s.nd⟩, hT⟩
  rw [a1, he, ← hj]
  simp

theorem Cu.node {T : List Ent} {up : List (Nat × Nat)} {h b : Nat} (c : Cu M f R H up h b T) : ∃ n, M b = some n ∧ n.es.length ≤ T.length := by
  obtain ⟨pre, L, post, Fo, F, s, hT⟩ := c.ex
  obtain ⟨n, hn⟩ := s.tr.dom
  exact ⟨n, hn, by rw [hT]; exact s.len hn⟩
theorem Cu.stop {T : List Ent} {up : List (Nat × Nat)} {h b : Nat} (c : Cu M f R H up h b T) (hf : up ≠ [] → Full M f b) : Cd M f R H T := by
  obtain ⟨pre, L, post, Fo, F, s, rfl⟩ := c.ex
  obtain ⟨F', t, p, q⟩ := s.up.plug s.tr hf
  exact ⟨F', t, p.nodup_iff.2 s.nd⟩
theorem Cd.node {T : List Ent} (c : Cd M f R H T) : ∃ n, M R = some n ∧ n.es.length ≤ T.length ∧ n.ks.length ≤ n.es.length + 1 := by
  obtain ⟨F, t, _⟩ := c.ex
  obtain ⟨n, hn⟩ := t.dom
  exact ⟨n, hn, (t.es_sub hn).length_le, t.ks_le hn⟩
theorem Cd.good {T : List Ent} (c : Cd M f R H T) (hs : Srt T) {n : Nr} (hn : M R = some n) (h : n.es ≠ [] ∨ n.ks = []) : ∃ F, Gd M f R H T F := by
  obtain ⟨F, t, d⟩ := c.ex
  refine ⟨F, t, fun hH => ⟨n, hn, ?_⟩, d, hs⟩
  rcases h with h | h
  · cases h2 : n.es with
    | nil => exact absurd h2 h
    | cons a l => simp
  · exact absurd ((t.ks_nil hn).1 h) hH
theorem Cd.root {T : List Ent} (c : Cd M f R H T) (hs : Srt T) (hf3 : 3 ≤ f) {n : Nr} (hn : M R = some n) (h0 : n.es = []) (h1 : n.ks ≠ []) : ∃ k H' F, n.ks = [k] ∧ Gd M f k H' T F := by
  obtain ⟨F, t, d⟩ := c.ex
  have hH : H ≠ 0 := fun q => h1 ((t.ks_nil hn).2 q)
  obtain ⟨h, rfl⟩ := Nat.exists_eq_succ_of_ne_zero hH
  obtain ⟨k, F', e1, t', hfull, d'⟩ := Spot.root (M := M) (f := f) (R := R) (h := h) (L := T) (F := F) ⟨⟨rfl, rfl, rfl, rfl, rfl⟩, t, by simpa using d⟩ hn h0
  obtain ⟨nk, g1, g2⟩ := hfull
  exact ⟨k, h, F', e1, t', fun _ => ⟨nk, g1, by omega⟩, d', hs⟩
end

end Go.Proofs.Ytkfoddblgdmabaa.tr

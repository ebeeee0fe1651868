/- Layer 10, plain mathematics: an entry put at an end, and the splits above it. -/
import Derived.Test.YtkfoddblgdmabaaTrWay
namespace Go.Proofs.Ytkfoddblgdmabaa.tr
open Go.RowKit

section
variable {M M' : Mp} {f R H : Nat}

/-- A node that has one entry more than it had. -/
structure Mo (M : Mp) (f R H : Nat) (up : List (Nat × Nat)) (b : Nat) (n : Nr) (T : List Ent) : Prop where
  ex : ∃ h pre L post Fo F, Spot M f R H up h b pre L post Fo F ∧ T = pre ++ L ++ post ∧ (up ≠ [] → Full M f b)
  at' : M b = some n
  one : 1 ≤ n.es.length
/-- A node that was split, and what goes up. -/
structure Pd (M : Mp) (f R H : Nat) (up : List (Nat × Nat)) (b r : Nat) (e : Ent) (T : List Ent) : Prop where
  ex : ∃ h pre L1 L2 post Fo F1 F2, Spot M f R H up h b pre L1 post Fo F1 ∧ Tr M f h r L2 F2 ∧ Full M f b ∧ Full M f r ∧ (Fo ++ F1 ++ F2).Nodup ∧ T = pre ++ (L1 ++ e :: L2) ++ post
/-- Ready to put e and rv into the lowest node of a way. -/
def Rdy (M : Mp) (f R H : Nat) (up : List (Nat × Nat)) (e : Ent) (rv : Value) (T : List Ent) : Prop := ∃ r : Nat,
  match up with
  | [] => rv = .pointer (some ⟨r, 0, none⟩) ∧ Pd M f R H [] R r e T
  | (p, i) :: up => ∃ n, M p = some n ∧ i ≤ n.es.length ∧ n.es.length ≤ T.length ∧ (n.ks = [] ∨ (n.ks ≠ [] ∧ n.ks.length = n.es.length + 1 ∧ rv = .pointer (some ⟨r, 0, none⟩))) ∧ ∀ ev kv, Mo (M.put p ⟨ev, kv, insL i e n.es, insK i r n.ks⟩) f R H up p ⟨ev, kv, insL i e n.es, insK i r n.ks⟩ T

/-- The first: at the end that a walk came to. -/
theorem Res.rdy {T : List Ent} {key : ByteArray} {way : List (Nat × Nat)} (g : Res M f R H T key way false) (hs : Srt T) (x : Ent) (hx : x.key = key) (rv : Value) : ∃ up q, way = up.reverse ++ [q] ∧ Rdy M f R H (q :: up) x rv (putL x.key x.n T) := by
  subst hx
  obtain ⟨up, h, b, pre, L, post, Fo, F, n, hw, s, hT, hn, hlo, hhi, hth, h0, hf, h1⟩ := g.ex
  have e0 := h0 rfl
  subst e0 hT
  obtain ⟨n', e1, e2, e3, e4⟩ := s.tr
  rw [hn] at e1; cases e1
  obtain ⟨E1, E2, c1, c2, c3, c4⟩ := pos_cut x.key n.es (s.sorted hs hn)
  have hE2 : Hi E2 x.key := by
    rcases c4 with c4 | ⟨y, E', rfl, ey, c4⟩
    · exact c4
    · rw [c1, ← ey, hasL_old (by rw [ey]; exact c3)] at hth
      cases hth
  subst e3 e4
  have hput : putL x.key x.n (pre ++ n.es ++ post) = pre ++ insL (pos x.key n.es) x n.es ++ post := by
    rw [c1, ← c1, ← c2, c1, insL_app rfl, show pre ++ (E1 ++ E2) ++ post = (pre ++ E1) ++ (E2 ++ post) by simp, putL_new (Lo.app.2 ⟨hlo, c3⟩) (Hi.app.2 ⟨hE2, hhi⟩)]
    simp
  have hlen := s.len hn
  refine ⟨up, _, hw, 0, n, hn, pos_le _ _, ?_, Or.inl e2, fun ev kv => ?_⟩
  · rw [hput]; simp only [List.length_append, insL_len] at hlen ⊢; omega
  have hb : b ∉ Fo := fun q => by
    have := List.nodup_append.1 s.nd
    exact this.2.2 b q b (by simp) rfl
  refine ⟨⟨0, pre, insL (pos x.key n.es) x n.es, post, Fo, [b], ⟨s.up.congr (fun y hy => Mp.put_other M _ (fun q => hb (q ▸ hy))), ⟨_, Mp.put_same _ _ _, by rw [e2]; rfl, rfl, rfl⟩, s.nd⟩, hput, fun q => ?_⟩, Mp.put_same _ _ _, by rw [insL_len]; omega⟩
  obtain ⟨n', g1, g2⟩ := hf q
  rw [hn] at g1; cases g1
  exact ⟨_, Mp.put_same _ _ _, by rw [insL_len]; omega⟩

/-- The next: what was split goes into the node above. -/
theorem Pd.rdy {up : List (Nat × Nat)} {b r : Nat} {e : Ent} {T : List Ent} (p : Pd M f R H up b r e T) : Rdy M f R H up e (.pointer (some ⟨r, 0, none⟩)) T := by
  cases up with
  | nil =>
    obtain ⟨h, pre, L1, L2, post, Fo, F1, F2, s, t, fb, fr, nd, hT⟩ := p.ex
    have e1 : b = R := s.up.2.1
    subst e1
    exact ⟨r, rfl, p⟩
  | cons q up =>
    obtain ⟨p', i⟩ := q
    obtain ⟨h, pre, L1, L2, post, Fo, F1, F2, s, t, fb, fr, nd, hT⟩ := p.ex
    obtain ⟨n, E1, E2, K1, K2, A, FA, B, FB, pre', post', Fo', h1, h2, h3, h4, h5, h6, h7, h8, h9, h10, h11, h12⟩ := s.up
    have hlK := lf_len h6
    have hrK := rt_len h7
    have hle : n.es.length ≤ T.length := by
      have a1 := lf_size h6
      have a2 : E2.length ≤ B.length := (rt_sub h7).length_le
      rw [hT, h10, h11, h2]
      simp only [List.length_append, List.length_cons]
      omega
    have hk0 : n.ks ≠ [] := by rw [h3]; simp
    refine ⟨r, n, h1, by rw [h2, ← h4]; simp, hle, Or.inr ⟨hk0, by rw [h2, h3]; simp; omega, rfl⟩, fun ev kv => ?_⟩
    obtain ⟨pre2, L', post2, Fo2, F', g1, g2, g3⟩ := s.put_up t fb fr nd h1 (n' := ⟨ev, kv, insL i e n.es, insK i r n.ks⟩) rfl (by simp [insK, hk0])
    exact ⟨⟨h + 1, pre2, L', post2, Fo2, F', g1, by rw [hT, g2], g3⟩, Mp.put_same _ _ _, by rw [insL_len]; omega⟩

/-- No split: done. -/
theorem Mo.good {up : List (Nat × Nat)} {b : Nat} {n : Nr} {T : List Ent} (o : Mo M f R H up b n T) (hs : Srt T) : ∃ F, Gd M f R H T F := by
  obtain ⟨h, pre, L, post, Fo, F, s, rfl, hf⟩ := o.ex
  exact s.good hf (fun _ _ => ⟨n, o.at', o.one⟩) hs
theorem Mo.len {up : List (Nat × Nat)} {b : Nat} {n : Nr} {T : List Ent} (o : Mo M f R H up b n T) : n.es.length ≤ T.length ∧ (n.ks = [] ∨ n.ks.length = n.es.length + 1) := by
  obtain ⟨h, pre, L, post, Fo, F, s, rfl, hf⟩ := o.ex
  refine ⟨s.len o.at', ?_⟩
  cases h with
  | zero => exact Or.inl ((s.tr.ks_nil o.at').2 rfl)
  | succ h => exact Or.inr (s.tr.ks_len o.at')
/-- A split. -/
theorem Mo.split {up : List (Nat × Nat)} {b r hf : Nat} {n nl nr : Nr} {y : Ent} {T : List Ent} (o : Mo M f R H up b n T) (hm : f < n.es.length + 1) (hhf : n.es.length / 2 = hf) (hy : n.es[hf]? = some y) (hr : M r = none)
    (e1 : nl.es = n.es.take hf) (e2 : nl.ks = n.ks.take (hf + 1)) (e3 : nr.es = n.es.drop (hf + 1)) (e4 : nr.ks = n.ks.drop (hf + 1)) : Pd ((M.put b nl).put r nr) f R H up b r y T := by
  obtain ⟨h, pre, L, post, Fo, F, s, rfl, hful⟩ := o.ex
  obtain ⟨c1, c2⟩ := cut_in hf n.es y hy
  have hnd := List.nodup_append.1 s.nd
  have hbr : b ≠ r := fun q => by have := o.at'; rw [q, hr] at this; cases this
  obtain ⟨L1, L2, F1, F2, g1, g2, g3, g4⟩ := s.tr.split (nl := nl) (nr := nr) hnd.2.1 o.at' hr c1 e1 (by rw [c2]; exact e2) e3 (by rw [c2]; exact e4)
  have mb : ((M.put b nl).put r nr) b = some nl := by rw [Mp.put_other _ _ hbr, Mp.put_same]
  have mr : ((M.put b nl).put r nr) r = some nr := Mp.put_same _ _ _
  have hbF : b ∈ F := s.tr.mem
  have hrFo : r ∉ Fo := fun q => s.up.all r q hr
  have hrF : r ∉ F := fun q => s.tr.all r q hr
  have hp : (Fo ++ (F1 ++ F2)).Nodup := by
    refine ((List.Perm.append_left Fo g4).nodup_iff).2 ?_
    refine (List.perm_middle.nodup_iff).2 ?_
    refine List.nodup_cons.2 ⟨?_, s.nd⟩
    simp [hrFo, hrF]
  have hp2 : (Fo ++ F1).Nodup := by rw [← List.append_assoc] at hp; exact (List.nodup_append.1 hp).1
  refine ⟨⟨h, pre, L1, L2, post, Fo, F1, F2, ⟨s.up.congr (fun x hx => ?_), g1, hp2⟩, g2, ⟨nl, mb, ?_⟩, ⟨nr, mr, ?_⟩, by rw [List.append_assoc]; exact hp, by rw [g3]⟩⟩
  · rw [Mp.put_other _ _ (fun q => hrFo (by rw [← q]; exact hx)), Mp.put_other _ _ (fun q => hnd.2.2 x hx b hbF q)]
  · rw [e1, c2]; omega
  · rw [e3, List.length_drop]; omega

/-- A root above the root. -/
theorem Rdy.top {e : Ent} {rv : Value} {T : List Ent} (g : Rdy M f R H [] e rv T) (hs : Srt T) : ∃ r, rv = .pointer (some ⟨r, 0, none⟩) ∧ ∀ b n, M b = none → n.es = [e] → n.ks = [R, r] → ∃ F, Gd (M.put b n) f b (H + 1) T F := by
  obtain ⟨r, hrv, p⟩ := g
  obtain ⟨h, pre, L1, L2, post, Fo, F1, F2, s, t, fb, fr, nd, hT⟩ := p.ex
  obtain ⟨rfl, -, rfl, rfl, rfl⟩ := s.up
  refine ⟨r, hrv, fun b n hb he hk => ?_⟩
  have hb1 : b ∉ F1 := fun q => s.tr.all b q hb
  have hb2 : b ∉ F2 := fun q => t.all b q hb
  have k1 : Kid (M.put b n) f h R L1 F1 := Kid.congr (fun x hx => Mp.put_other M n (fun q => hb1 (q ▸ hx))) ⟨s.tr, fb⟩
  have k2 : Kid (M.put b n) f h r L2 F2 := Kid.congr (fun x hx => Mp.put_other M n (fun q => hb2 (q ▸ hx))) ⟨t, fr⟩
  have hT' : T = L1 ++ e :: L2 := by simpa using hT
  subst hT'
  refine ⟨b :: (F1 ++ F2), ⟨n, F1 ++ F2, Mp.put_same _ _ _, ?_, rfl⟩, fun _ => ⟨n, Mp.put_same _ _ _, by rw [he]; simp⟩, ?_, hs⟩
  · rw [he, hk]
    exact ⟨R, [r], L1, F1, e :: L2, F2, rfl, k1, ⟨L2, F2, [], [], k2, ⟨rfl, rfl⟩, by simp, by simp⟩, by simp, rfl⟩
  · refine List.nodup_cons.2 ⟨by simp [hb1, hb2], by simpa using nd⟩
end

end Go.Proofs.Ytkfoddblgdmabaa.tr

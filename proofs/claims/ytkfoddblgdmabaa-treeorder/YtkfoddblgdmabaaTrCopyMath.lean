/- Layer 10, plain mathematics: copies of kids, one behind the other, in new blocks. -/
import Derived.Test.YtkfoddblgdmabaaTrRepair
namespace Go.Proofs.Ytkfoddblgdmabaa.tr
open Go.RowKit

section
variable {M M2 M3 : Mp} {f h : Nat}
/-- A node is a copy of a kid, in blocks from lo on, below hi. -/
def Cp (M M2 : Mp) (f h k k' lo hi : Nat) : Prop := ∀ L F, Kid M f h k L F → ∃ F', Kid M2 f h k' L F' ∧ F'.Nodup ∧ ∀ x ∈ F', lo ≤ x ∧ x < hi
/-- Nodes are the copies of kids, one behind the other. -/
def Cps (M M2 : Mp) (f h : Nat) : List Nat → List Nat → Nat → Nat → Prop
  | [], [], lo, hi => lo ≤ hi
  | k :: K, k' :: K', lo, hi => ∃ mid, lo ≤ mid ∧ Cp M M2 f h k k' lo mid ∧ Cps M M2 f h K K' mid hi
  | _, _, _, _ => False
theorem Cps.le : ∀ {K K' : List Nat} {lo hi : Nat}, Cps M M2 f h K K' lo hi → lo ≤ hi
  | [], [], _, _, c => c
  | _ :: _, _ :: _, _, _, ⟨_, h1, _, h3⟩ => Nat.le_trans h1 h3.le
  | [], _ :: _, _, _, c => c.elim
  | _ :: _, [], _, _, c => c.elim
theorem Cps.len : ∀ {K K' : List Nat} {lo hi : Nat}, Cps M M2 f h K K' lo hi → K'.length = K.length
  | [], [], _, _, _ => rfl
  | _ :: _, _ :: _, _, _, ⟨_, _, _, h3⟩ => by simp [h3.len]
  | [], _ :: _, _, _, c => c.elim
  | _ :: _, [], _, _, c => c.elim
theorem Cps.snoc {k k' mid hi : Nat} (g : Cp M M2 f h k k' mid hi) (hm : mid ≤ hi) : ∀ {K K' : List Nat} {lo : Nat}, Cps M M2 f h K K' lo mid → Cps M M2 f h (K ++ [k]) (K' ++ [k']) lo hi
  | [], [], _, c => ⟨hi, Nat.le_trans c hm, fun L F hk => by
      obtain ⟨F', h1, h2, h3⟩ := g L F hk
      exact ⟨F', h1, h2, fun x hx => ⟨Nat.le_trans c (h3 x hx).1, (h3 x hx).2⟩⟩, Nat.le_refl _⟩
  | _ :: _, _ :: _, _, ⟨m, h1, h2, h3⟩ => ⟨m, h1, h2, Cps.snoc g hm h3⟩
  | [], _ :: _, _, c => c.elim
  | _ :: _, [], _, c => c.elim
theorem Cp.congr {k k' lo hi : Nat} (hc : ∀ x, lo ≤ x → x < hi → M3 x = M2 x) (c : Cp M M2 f h k k' lo hi) : Cp M M3 f h k k' lo hi := fun L F hk => by
  obtain ⟨F', h1, h2, h3⟩ := c L F hk
  exact ⟨F', h1.congr (fun x hx => hc x (h3 x hx).1 (h3 x hx).2), h2, h3⟩
theorem Cps.congr : ∀ {K K' : List Nat} {lo hi : Nat}, (∀ x, lo ≤ x → x < hi → M3 x = M2 x) → Cps M M2 f h K K' lo hi → Cps M M3 f h K K' lo hi
  | [], [], _, _, _, c => c
  | _ :: _, _ :: _, _, _, hc, ⟨m, h1, h2, h3⟩ => ⟨m, h1, h2.congr (fun x a b => hc x a (Nat.lt_of_lt_of_le b h3.le)), Cps.congr (fun x a b => hc x (Nat.le_trans h1 a) b) h3⟩
  | [], _ :: _, _, _, _, c => c.elim
  | _ :: _, [], _, _, _, c => c.elim
theorem Cps.more {hi hi' : Nat} (hh : hi ≤ hi') : ∀ {K K' : List Nat} {lo : Nat}, Cps M M2 f h K K' lo hi → Cps M M2 f h K K' lo hi'
  | [], [], _, c => Nat.le_trans c hh
  | _ :: _, _ :: _, _, ⟨m, h1, h2, h3⟩ => ⟨m, h1, h2, Cps.more hh h3⟩
  | [], _ :: _, _, c => c.elim
  | _ :: _, [], _, c => c.elim
theorem nodup_app {A B : List Nat} {lo mid hi : Nat} (hA : A.Nodup) (hB : B.Nodup) (h1 : ∀ x ∈ A, lo ≤ x ∧ x < mid) (h2 : ∀ x ∈ B, mid ≤ x ∧ x < hi) : (A ++ B).Nodup :=
  List.nodup_append.2 ⟨hA, hB, fun a ha b hb e => by
    have := (h1 a ha).2
    have := (h2 b hb).1
    omega⟩
theorem range_app {A B : List Nat} {lo mid hi : Nat} (hl : lo ≤ mid) (hh : mid ≤ hi) (h1 : ∀ x ∈ A, lo ≤ x ∧ x < mid) (h2 : ∀ x ∈ B, mid ≤ x ∧ x < hi) : ∀ x ∈ A ++ B, lo ≤ x ∧ x < hi := fun x hx => by
  rcases List.mem_append.1 hx with q | q
  · have := h1 x q
    omega
  · have := h2 x q
    omega
theorem Cps.rt : ∀ {K K' : List Nat} {lo hi : Nat} {E B : List Ent} {F : List Nat}, Cps M M2 f h K K' lo hi → Rt (Kid M f h) E K B F → ∃ F', Rt (Kid M2 f h) E K' B F' ∧ F'.Nodup ∧ ∀ x ∈ F', lo ≤ x ∧ x < hi
  | [], [], _, _, [], _, _, _, ⟨e1, _⟩ => ⟨[], ⟨e1, rfl⟩, List.Pairwise.nil, fun _ hx => by cases hx⟩
  | k :: K, k' :: K', lo, hi, e :: E, B, F, ⟨m, c1, c2, c3⟩, ⟨L, F1, B2, F2, g1, g2, g3, _⟩ => by
    obtain ⟨F1', h1, h2, h3⟩ := c2 L F1 g1
    obtain ⟨F2', j1, j2, j3⟩ := Cps.rt c3 g2
    exact ⟨F1' ++ F2', ⟨L, F1', B2, F2', h1, j1, g3, rfl⟩, nodup_app h2 j2 h3 j3, range_app c1 c3.le h3 j3⟩
  | [], _ :: _, _, _, _, _, _, c, _ => c.elim
  | _ :: _, [], _, _, _, _, _, c, _ => c.elim
  | [], [], _, _, _ :: _, _, _, _, g => g.elim
  | _ :: _, _ :: _, _, _, [], _, _, _, g => g.elim
theorem Cps.nd {K K' : List Nat} {lo hi : Nat} {E L : List Ent} {F : List Nat} (c : Cps M M2 f h K K' lo hi) (g : Nd (Kid M f h) K E L F) : ∃ F', Nd (Kid M2 f h) K' E L F' ∧ F'.Nodup ∧ ∀ x ∈ F', lo ≤ x ∧ x < hi := by
  obtain ⟨k, K1, L1, F1, B, FB, e1, g1, g2, g3, _⟩ := g
  subst e1
  cases K' with
  | nil => exact c.elim
  | cons k' K' =>
    obtain ⟨m, c1, c2, c3⟩ := c
    obtain ⟨F1', h1, h2, h3⟩ := c2 L1 F1 g1
    obtain ⟨F2', j1, j2, j3⟩ := c3.rt g2
    exact ⟨F1' ++ F2', ⟨k', K', L1, F1', B, F2', rfl, h1, j1, g3, rfl⟩, nodup_app h2 j2 h3 j3, range_app c1 c3.le h3 j3⟩

/-- Nodes below a block, and others from it on. -/
def Mp.cut (s : Nat) (M M3 : Mp) : Mp := fun x => if x < s then M x else M3 x
theorem Mp.cut_lo {s x : Nat} (h : x < s) : Mp.cut s M M3 x = M x := by simp [Mp.cut, h]
theorem Mp.cut_hi {s x : Nat} (h : s ≤ x) : Mp.cut s M M3 x = M3 x := by simp [Mp.cut, Nat.not_lt.2 h]
theorem Mm.cut {w : World} {B s : Nat} (m : Mm w B M) (m3 : Mm w s M3) (hB : B ≤ s) (hs : ∀ k, Ft M k → k < s) : Mm w B (Mp.cut s M M3) := by
  have cs : ∀ b n, Mp.cut s M M3 b = some n → (M b = some n ∧ ∀ k, Fn b n k → k < s) ∨ (M3 b = some n ∧ ∀ k, Fn b n k → s ≤ k) := fun b n hn => by
    by_cases q : b < s
    · rw [Mp.cut_lo q] at hn
      exact Or.inl ⟨hn, fun k hk => hs k ⟨b, n, hn, hk⟩⟩
    · rw [Mp.cut_hi (Nat.not_lt.1 q)] at hn
      exact Or.inr ⟨hn, fun k hk => (m3.lt ⟨b, n, hn, hk⟩).1⟩
  refine ⟨fun b n hn => ?_, fun b n hn => ?_, fun b n hn => ?_, fun b b' n n' k h1 h2 e1 e2 => ?_, fun b b' n n' k h1 h2 e1 e2 => ?_⟩
  · rcases cs b n hn with ⟨q, _⟩ | ⟨q, _⟩
    · exact m.top b n q
    · exact ⟨(m3.top b n q).1, Nat.le_trans hB (m3.top b n q).2⟩
  · rcases cs b n hn with ⟨q, _⟩ | ⟨q, _⟩
    · exact m.ents b n q
    · exact (m3.ents b n q).mono hB
  · rcases cs b n hn with ⟨q, _⟩ | ⟨q, _⟩
    · exact m.kids b n q
    · exact (m3.kids b n q).mono hB
  · rcases cs b n h1 with ⟨q1, u1⟩ | ⟨q1, u1⟩ <;> rcases cs b' n' h2 with ⟨q2, u2⟩ | ⟨q2, u2⟩
    · exact m.apE _ _ _ _ k q1 q2 e1 e2
    · have := u1 k (Or.inr (Or.inl e1)); have := u2 k (Or.inr (Or.inl e2)); omega
    · have := u1 k (Or.inr (Or.inl e1)); have := u2 k (Or.inr (Or.inl e2)); omega
    · exact m3.apE _ _ _ _ k q1 q2 e1 e2
  · rcases cs b n h1 with ⟨q1, u1⟩ | ⟨q1, u1⟩ <;> rcases cs b' n' h2 with ⟨q2, u2⟩ | ⟨q2, u2⟩
    · exact m.apK _ _ _ _ k q1 q2 e1 e2
    · have := u1 k (Or.inr (Or.inr e1)); have := u2 k (Or.inr (Or.inr e2)); omega
    · have := u1 k (Or.inr (Or.inr e1)); have := u2 k (Or.inr (Or.inr e2)); omega
    · exact m3.apK _ _ _ _ k q1 q2 e1 e2

/-- A kid's keys are no more than the node's. -/
theorem Tr.kidat {b i k : Nat} {L : List Ent} {F : List Nat} {n : Nr} (t : Tr M f (h + 1) b L F) (hn : M b = some n) (hk : n.ks[i]? = some k) : ∃ Lk Fk, Kid M f h k Lk Fk ∧ Lk.length ≤ L.length := by
  obtain ⟨n', F', e1, hnd, _⟩ := t
  rw [hn] at e1; cases e1
  have hl := nd_len hnd
  have hi := (List.getElem?_eq_some_iff.1 hk).1
  obtain ⟨d1, d2⟩ := cut_in _ n.ks k hk
  obtain ⟨c1, c2⟩ := cut_at i n.es (by omega)
  have hnd' := hnd
  rw [d1, c1] at hnd'
  obtain ⟨A, FA, Lk, Fk, C, FB, g1, g2, g3, g4, g5⟩ := nd_at (by rw [d2, c2]) hnd'
  exact ⟨Lk, Fk, g2, by rw [g4]; simp; omega⟩
/-- A node of the same entries, with copies of the kids. -/
theorem Tr.copied {b c lo hi : Nat} {L : List Ent} {F : List Nat} {n n' : Nr} (t : Tr M f (h + 1) b L F) (hn : M b = some n) (hc : M2 c = some n') (he : n'.es = n.es) (cp : Cps M M2 f h n.ks n'.ks lo hi) (hlo : c < lo) : ∃ F', Tr M2 f (h + 1) c L F' ∧ F'.Nodup := by
  obtain ⟨n1, F1, e1, hnd, _⟩ := t
  rw [hn] at e1; cases e1
  obtain ⟨F', g1, g2, g3⟩ := cp.nd hnd
  exact ⟨c :: F', ⟨n', F', hc, by rw [he]; exact g1, rfl⟩, List.nodup_cons.2 ⟨fun hx => by have := (g3 c hx).1; omega, g2⟩⟩
end

end Go.Proofs.Ytkfoddblgdmabaa.tr

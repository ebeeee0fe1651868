/- Layer 10, plain mathematics: nodes, trees of them, ways down. -/
import Derived.Test.YtkfoddblgdmabaaTrOrd
namespace Go.Proofs.Ytkfoddblgdmabaa.tr
open Go.RowKit

/-- A node: where its entries and its kids lie, what they are. -/
structure Nr where
  ev : Value
  kv : Value
  es : List Ent
  ks : List Nat
/-- Nodes by their blocks. -/
abbrev Mp := Nat → Option Nr
def Mp.put (M : Mp) (b : Nat) (n : Nr) : Mp := fun x => if x = b then some n else M x
theorem Mp.put_same (M : Mp) (b : Nat) (n : Nr) : M.put b n b = some n := by simp [Mp.put]
theorem Mp.put_other (M : Mp) {b x : Nat} (n : Nr) (h : x ≠ b) : M.put b n x = M x := by simp [Mp.put, h]

section
variable {P Q : Nat → List Ent → List Nat → Prop}
/-- Entries, each with a kid behind it: their keys in order, and the blocks of all below. -/
def Rt (P : Nat → List Ent → List Nat → Prop) : List Ent → List Nat → List Ent → List Nat → Prop
  | [], [], B, F => B = [] ∧ F = []
  | e :: E, k :: K, B, F => ∃ L F1 B2 F2, P k L F1 ∧ Rt P E K B2 F2 ∧ B = e :: (L ++ B2) ∧ F = F1 ++ F2
  | _, _, _, _ => False
/-- Entries, each with a kid ahead of it. -/
def Lf (P : Nat → List Ent → List Nat → Prop) : List Nat → List Ent → List Ent → List Nat → Prop
  | [], [], A, F => A = [] ∧ F = []
  | k :: K, e :: E, A, F => ∃ L F1 A2 F2, P k L F1 ∧ Lf P K E A2 F2 ∧ A = L ++ e :: A2 ∧ F = F1 ++ F2
  | _, _, _, _ => False
/-- A node with kids. -/
def Nd (P : Nat → List Ent → List Nat → Prop) (K : List Nat) (E L : List Ent) (F : List Nat) : Prop :=
  ∃ k K' L1 F1 B FB, K = k :: K' ∧ P k L1 F1 ∧ Rt P E K' B FB ∧ L = L1 ++ B ∧ F = F1 ++ FB

theorem rt_len : ∀ {E : List Ent} {K : List Nat} {B : List Ent} {F : List Nat}, Rt P E K B F → E.length = K.length
  | [], [], _, _, _ => rfl
  | e :: E, k :: K, B, F, ⟨L, F1, B2, F2, _, h, _, _⟩ => by simp [rt_len h]
  | [], _ :: _, _, _, h => h.elim
  | _ :: _, [], _, _, h => h.elim
theorem lf_len : ∀ {K : List Nat} {E : List Ent} {A : List Ent} {F : List Nat}, Lf P K E A F → K.length = E.length
  | [], [], _, _, _ => rfl
  | k :: K, e :: E, B, F, ⟨L, F1, B2, F2, _, h, _, _⟩ => by simp [lf_len h]
  | [], _ :: _, _, _, h => h.elim
  | _ :: _, [], _, _, h => h.elim
theorem nd_len {K : List Nat} {E L : List Ent} {F : List Nat} : Nd P K E L F → K.length = E.length + 1 := by
  rintro ⟨k, K', L1, F1, B, FB, rfl, _, h, _, _⟩
  simp [rt_len h]
theorem rt_mono : ∀ {E : List Ent} {K : List Nat} {B : List Ent} {F : List Nat}, (∀ k L G, (∀ x ∈ G, x ∈ F) → P k L G → Q k L G) → Rt P E K B F → Rt Q E K B F
  | [], [], _, _, _, h => h
  | e :: E, k :: K, B, F, hm, ⟨L, F1, B2, F2, hp, h, e1, e2⟩ => ⟨L, F1, B2, F2, hm k L F1 (fun x hx => by rw [e2]; exact List.mem_append_left _ hx) hp, rt_mono (fun k L G hG => hm k L G (fun x hx => by rw [e2]; exact List.mem_append_right _ (hG x hx))) h, e1, e2⟩
  | [], _ :: _, _, _, _, h => h.elim
  | _ :: _, [], _, _, _, h => h.elim
theorem lf_mono : ∀ {K : List Nat} {E : List Ent} {A : List Ent} {F : List Nat}, (∀ k L G, (∀ x ∈ G, x ∈ F) → P k L G → Q k L G) → Lf P K E A F → Lf Q K E A F
  | [], [], _, _, _, h => h
  | k :: K, e :: E, B, F, hm, ⟨L, F1, B2, F2, hp, h, e1, e2⟩ => ⟨L, F1, B2, F2, hm k L F1 (fun x hx => by rw [e2]; exact List.mem_append_left _ hx) hp, lf_mono (fun k L G hG => hm k L G (fun x hx => by rw [e2]; exact List.mem_append_right _ (hG x hx))) h, e1, e2⟩
  | [], _ :: _, _, _, _, h => h.elim
  | _ :: _, [], _, _, _, h => h.elim
theorem nd_mono {K : List Nat} {E L : List Ent} {F : List Nat} (hm : ∀ k L G, (∀ x ∈ G, x ∈ F) → P k L G → Q k L G) : Nd P K E L F → Nd Q K E L F := by
  rintro ⟨k, K', L1, F1, B, FB, e0, hp, h, e1, e2⟩
  exact ⟨k, K', L1, F1, B, FB, e0, hm k L1 F1 (fun x hx => by rw [e2]; exact List.mem_append_left _ hx) hp, rt_mono (fun k L G hG => hm k L G (fun x hx => by rw [e2]; exact List.mem_append_right _ (hG x hx))) h, e1, e2⟩
theorem rt_app : ∀ {E1 : List Ent} {K1 : List Nat} {B1 : List Ent} {F1 : List Nat} {E2 : List Ent} {K2 : List Nat} {B2 : List Ent} {F2 : List Nat}, Rt P E1 K1 B1 F1 → Rt P E2 K2 B2 F2 → Rt P (E1 ++ E2) (K1 ++ K2) (B1 ++ B2) (F1 ++ F2)
  | [], [], _, _, _, _, _, _, ⟨rfl, rfl⟩, h => by simpa using h
  | e :: E, k :: K, B, F, _, _, _, _, ⟨L, G1, C2, G2, hp, h, e1, e2⟩, g => ⟨L, G1, _, _, hp, rt_app h g, by rw [e1]; simp, by rw [e2]; simp⟩
  | [], _ :: _, _, _, _, _, _, _, h, _ => h.elim
  | _ :: _, [], _, _, _, _, _, _, h, _ => h.elim
theorem lf_app : ∀ {K1 : List Nat} {E1 : List Ent} {B1 : List Ent} {F1 : List Nat} {K2 : List Nat} {E2 : List Ent} {B2 : List Ent} {F2 : List Nat}, Lf P K1 E1 B1 F1 → Lf P K2 E2 B2 F2 → Lf P (K1 ++ K2) (E1 ++ E2) (B1 ++ B2) (F1 ++ F2)
  | [], [], _, _, _, _, _, _, ⟨rfl, rfl⟩, h => by simpa using h
  | k :: K, e :: E, B, F, _, _, _, _, ⟨L, G1, C2, G2, hp, h, e1, e2⟩, g => ⟨L, G1, _, _, hp, lf_app h g, by rw [e1]; simp, by rw [e2]; simp⟩
  | [], _ :: _, _, _, _, _, _, _, h, _ => h.elim
  | _ :: _, [], _, _, _, _, _, _, h, _ => h.elim
theorem rt_split : ∀ {E1 : List Ent} {K1 : List Nat} {E2 : List Ent} {K2 : List Nat} {B : List Ent} {F : List Nat}, E1.length = K1.length → Rt P (E1 ++ E2) (K1 ++ K2) B F → ∃ B1 F1 B2 F2, Rt P E1 K1 B1 F1 ∧ Rt P E2 K2 B2 F2 ∧ B = B1 ++ B2 ∧ F = F1 ++ F2
  | [], [], _, _, B, F, _, h => ⟨[], [], B, F, ⟨rfl, rfl⟩, h, rfl, rfl⟩
  | e :: E, k :: K, _, _, B, F, hl, ⟨L, G1, C2, G2, hp, h, e1, e2⟩ => by
    obtain ⟨B1, F1, B2, F2, h1, h2, h3, h4⟩ := rt_split (by simpa using hl) h
    exact ⟨e :: (L ++ B1), G1 ++ F1, B2, F2, ⟨L, G1, B1, F1, hp, h1, rfl, rfl⟩, h2, by rw [e1, h3]; simp, by rw [e2, h4]; simp⟩
  | [], _ :: _, _, _, _, _, h, _ => by simp at h
  | _ :: _, [], _, _, _, _, h, _ => by simp at h
theorem lf_split : ∀ {K1 : List Nat} {E1 : List Ent} {K2 : List Nat} {E2 : List Ent} {B : List Ent} {F : List Nat}, K1.length = E1.length → Lf P (K1 ++ K2) (E1 ++ E2) B F → ∃ B1 F1 B2 F2, Lf P K1 E1 B1 F1 ∧ Lf P K2 E2 B2 F2 ∧ B = B1 ++ B2 ∧ F = F1 ++ F2
  | [], [], _, _, B, F, _, h => ⟨[], [], B, F, ⟨rfl, rfl⟩, h, rfl, rfl⟩
  | k :: K, e :: E, _, _, B, F, hl, ⟨L, G1, C2, G2, hp, h, e1, e2⟩ => by
    obtain ⟨B1, F1, B2, F2, h1, h2, h3, h4⟩ := lf_split (by simpa using hl) h
    exact ⟨L ++ e :: B1, G1 ++ F1, B2, F2, ⟨L, G1, B1, F1, hp, h1, rfl, rfl⟩, h2, by rw [e1, h3]; simp, by rw [e2, h4]; simp⟩
  | [], _ :: _, _, _, _, _, h, _ => by simp at h
  | _ :: _, [], _, _, _, _, h, _ => by simp at h
theorem rt_of_nd {K : List Nat} {E L : List Ent} {F : List Nat} (e : Ent) : Nd P K E L F → Rt P (e :: E) K (e :: L) F := by
  rintro ⟨k, K', L1, F1, B, FB, rfl, hp, h, rfl, rfl⟩
  exact ⟨L1, F1, B, FB, hp, h, rfl, rfl⟩
theorem nd_of_rt {K : List Nat} {e : Ent} {E B : List Ent} {F : List Nat} (h : Rt P (e :: E) K B F) : ∃ L, B = e :: L ∧ Nd P K E L F := by
  cases K with
  | nil => exact h.elim
  | cons k K =>
    obtain ⟨L, F1, B2, F2, hp, h, e1, e2⟩ := h
    exact ⟨_, e1, k, K, L, F1, B2, F2, rfl, hp, h, rfl, e2⟩
theorem nd_of : ∀ {K1 : List Nat} {E1 A : List Ent} {FA : List Nat} {k : Nat} {L : List Ent} {F : List Nat} {E2 : List Ent} {K2 : List Nat} {B : List Ent} {FB : List Nat}, Lf P K1 E1 A FA → P k L F → Rt P E2 K2 B FB → Nd P (K1 ++ k :: K2) (E1 ++ E2) (A ++ L ++ B) (FA ++ F ++ FB)
  | [], [], _, _, k, L, F, E2, K2, B, FB, ⟨rfl, rfl⟩, hp, hr => ⟨k, K2, L, F, B, FB, rfl, hp, hr, by simp, by simp⟩
  | k1 :: K1, e1 :: E1, A, FA, k, L, F, E2, K2, B, FB, ⟨L1, F1, A2, F2, h1, h2, h3, h4⟩, hp, hr => by
    have := rt_of_nd e1 (nd_of h2 hp hr)
    exact ⟨k1, _, L1, F1, _, _, rfl, h1, this, by rw [h3]; simp, by rw [h4]; simp⟩
  | [], _ :: _, _, _, _, _, _, _, _, _, _, h, _, _ => h.elim
  | _ :: _, [], _, _, _, _, _, _, _, _, _, h, _, _ => h.elim
theorem nd_at : ∀ {K1 : List Nat} {E1 : List Ent} {k : Nat} {E2 : List Ent} {K2 : List Nat} {L : List Ent} {F : List Nat}, K1.length = E1.length → Nd P (K1 ++ k :: K2) (E1 ++ E2) L F → ∃ A FA Lk Fk B FB, Lf P K1 E1 A FA ∧ P k Lk Fk ∧ Rt P E2 K2 B FB ∧ L = A ++ Lk ++ B ∧ F = FA ++ Fk ++ FB
  | [], [], k, E2, K2, L, F, _, ⟨k', K', L1, F1, B, FB, e0, hp, h, e1, e2⟩ => by
    simp at e0
    obtain ⟨rfl, rfl⟩ := e0
    exact ⟨[], [], L1, F1, B, FB, ⟨rfl, rfl⟩, hp, h, by simpa using e1, by simpa using e2⟩
  | k1 :: K1, e1 :: E1, k, E2, K2, L, F, hl, ⟨k', K', L1, F1, B, FB, e0, hp, h, h1, h2⟩ => by
    simp at e0
    obtain ⟨rfl, rfl⟩ := e0
    obtain ⟨L', rfl, hn⟩ := nd_of_rt h
    obtain ⟨A, FA, Lk, Fk, B', FB', g1, g2, g3, g4, g5⟩ := nd_at (by simpa using hl) hn
    exact ⟨L1 ++ e1 :: A, F1 ++ FA, Lk, Fk, B', FB', ⟨L1, F1, A, FA, hp, g1, rfl, rfl⟩, g2, g3, by rw [h1, g4]; simp, by rw [h2, g5]; simp⟩
  | [], _ :: _, _, _, _, _, _, h, _ => by simp at h
  | _ :: _, [], _, _, _, _, _, h, _ => by simp at h
theorem nd_join {K1 K2 : List Nat} {E1 E2 L1 L2 : List Ent} {F1 F2 : List Nat} (e : Ent) (h1 : Nd P K1 E1 L1 F1) (h2 : Nd P K2 E2 L2 F2) : Nd P (K1 ++ K2) (E1 ++ e :: E2) (L1 ++ e :: L2) (F1 ++ F2) := by
  obtain ⟨k, K', L, F, B, FB, rfl, hp, h, rfl, rfl⟩ := h1
  exact ⟨k, K' ++ K2, L, F, B ++ e :: L2, FB ++ F2, rfl, hp, rt_app h (rt_of_nd e h2), by simp, by simp⟩
theorem nd_cut {K1 K2 : List Nat} {E1 E2 L : List Ent} {e : Ent} {F : List Nat} (hl : K1.length = E1.length + 1) (h : Nd P (K1 ++ K2) (E1 ++ e :: E2) L F) : ∃ L1 L2 F1 F2, Nd P K1 E1 L1 F1 ∧ Nd P K2 E2 L2 F2 ∧ L = L1 ++ e :: L2 ∧ F = F1 ++ F2 := by
  obtain ⟨k, K', L1, F1, B, FB, e0, hp, h, rfl, rfl⟩ := h
  cases K1 with
  | nil => simp at hl
  | cons k1 K1 =>
    simp at e0
    obtain ⟨rfl, rfl⟩ := e0
    obtain ⟨B1, G1, B2, G2, h1, h2, rfl, rfl⟩ := rt_split (by simp at hl; omega) h
    obtain ⟨L2, rfl, h3⟩ := nd_of_rt h2
    exact ⟨L1 ++ B1, L2, F1 ++ G1, G2, ⟨k1, K1, L1, F1, B1, G1, rfl, hp, h1, rfl, rfl⟩, h3, by simp, by simp⟩
theorem lf_low : ∀ {K : List Nat} {E A : List Ent} {F : List Nat} {key : ByteArray}, Lf P K E A F → Srt A → Lo E key → Lo A key
  | [], [], _, _, _, ⟨rfl, _⟩, _, _ => Lo.nil _
  | k :: K, e :: E, A, F, key, ⟨L, F1, A2, F2, _, h, e1, _⟩, hs, hl => by
    subst e1
    obtain ⟨h1, h2⟩ := Lo.cons.1 hl
    obtain ⟨h3, _, _, h4⟩ := hs.mid
    exact Lo.app.2 ⟨h3.le (ltS_asymm h1), Lo.cons.2 ⟨h1, lf_low h h4 h2⟩⟩
  | [], _ :: _, _, _, _, h, _, _ => h.elim
  | _ :: _, [], _, _, _, h, _, _ => h.elim
theorem rt_high : ∀ {E : List Ent} {K : List Nat} {B : List Ent} {F : List Nat} {key : ByteArray}, Rt P E K B F → Srt B → Hi E key → Hi B key
  | [], [], _, _, _, ⟨rfl, _⟩, _, _ => Hi.nil _
  | e :: E, k :: K, B, F, key, ⟨L, F1, B2, F2, _, h, e1, _⟩, hs, hl => by
    subst e1
    obtain ⟨h1, h2⟩ := Hi.cons.1 hl
    obtain ⟨h3, h4⟩ := Srt.cons.1 hs
    obtain ⟨h5, h6⟩ := Hi.app.1 h3
    exact Hi.cons.2 ⟨h1, Hi.app.2 ⟨h5.le (ltS_asymm h1), rt_high h h4.right h2⟩⟩
  | [], _ :: _, _, _, _, h, _, _ => h.elim
  | _ :: _, [], _, _, _, h, _, _ => h.elim
theorem rt_sub : ∀ {E : List Ent} {K : List Nat} {B : List Ent} {F : List Nat}, Rt P E K B F → E.Sublist B
  | [], [], _, _, ⟨rfl, _⟩ => List.Sublist.slnil
  | e :: E, k :: K, B, F, ⟨L, F1, B2, F2, _, h, e1, _⟩ => by
    subst e1
    exact List.Sublist.cons_cons e ((rt_sub h).trans (List.sublist_append_right _ _))
  | [], _ :: _, _, _, h => h.elim
  | _ :: _, [], _, _, h => h.elim
theorem nd_sub {K : List Nat} {E L : List Ent} {F : List Nat} (h : Nd P K E L F) : E.Sublist L := by
  obtain ⟨k, K', L1, F1, B, FB, rfl, hp, h, rfl, rfl⟩ := h
  exact (rt_sub h).trans (List.sublist_append_right _ _)
end

/-- A node that has enough: half the fan. -/
def Full (M : Mp) (f b : Nat) : Prop := ∃ n, M b = some n ∧ f ≤ 2 * (n.es.length + 1)
/-- A node, so many levels above the ends, its keys in order, its blocks. -/
def Tr (M : Mp) (f : Nat) : Nat → Nat → List Ent → List Nat → Prop
  | 0, b, L, F => ∃ n, M b = some n ∧ n.ks = [] ∧ n.es = L ∧ F = [b]
  | h + 1, b, L, F => ∃ n F', M b = some n ∧ Nd (fun k L F => Tr M f h k L F ∧ Full M f k) n.ks n.es L F' ∧ F = b :: F'
/-- A kid. -/
def Kid (M : Mp) (f h : Nat) : Nat → List Ent → List Nat → Prop := fun k L F => Tr M f h k L F ∧ Full M f k

section
variable {M M' : Mp} {f h b : Nat} {L : List Ent} {F : List Nat}
theorem Tr.mem (t : Tr M f h b L F) : b ∈ F := by
  cases h with
  | zero => obtain ⟨n, _, _, _, rfl⟩ := t; simp
  | succ h => obtain ⟨n, F', _, _, rfl⟩ := t; simp
theorem Full.congr (t : Full M f b) (h : M' b = M b) : Full M' f b := by obtain ⟨n, h1, h2⟩ := t; exact ⟨n, h.trans h1, h2⟩
theorem Tr.congr : ∀ {h b : Nat} {L : List Ent} {F : List Nat}, (∀ x ∈ F, M' x = M x) → Tr M f h b L F → Tr M' f h b L F
  | 0, b, L, F, hc, ⟨n, h1, h2, h3, h4⟩ => ⟨n, (hc b (by rw [h4]; simp)).trans h1, h2, h3, h4⟩
  | h + 1, b, L, F, hc, ⟨n, F', h1, h2, h3⟩ => ⟨n, F', (hc b (by rw [h3]; simp)).trans h1, nd_mono (fun k L G hG hp => ⟨hp.1.congr (fun x hx => hc x (by rw [h3]; exact List.mem_cons_of_mem _ (hG x hx))), hp.2.congr (hc k (by rw [h3]; exact List.mem_cons_of_mem _ (hG k hp.1.mem)))⟩) h2, h3⟩
theorem Kid.congr {k : Nat} (hc : ∀ x ∈ F, M' x = M x) (t : Kid M f h k L F) : Kid M' f h k L F := ⟨t.1.congr hc, t.2.congr (hc k t.1.mem)⟩
theorem rt_congr {E B : List Ent} {K : List Nat} (hc : ∀ x ∈ F, M' x = M x) (t : Rt (Kid M f h) E K B F) : Rt (Kid M' f h) E K B F := rt_mono (fun _ _ _ hG hp => hp.congr (fun x hx => hc x (hG x hx))) t
theorem lf_congr {E B : List Ent} {K : List Nat} (hc : ∀ x ∈ F, M' x = M x) (t : Lf (Kid M f h) K E B F) : Lf (Kid M' f h) K E B F := lf_mono (fun _ _ _ hG hp => hp.congr (fun x hx => hc x (hG x hx))) t
theorem Tr.dom (t : Tr M f h b L F) : ∃ n, M b = some n := by
  cases h with
  | zero => obtain ⟨n, h, _⟩ := t; exact ⟨n, h⟩
  | succ h => obtain ⟨n, _, h, _⟩ := t; exact ⟨n, h⟩
theorem Tr.es_sub {n : Nr} (t : Tr M f h b L F) (hn : M b = some n) : n.es.Sublist L := by
  cases h with
  | zero =>
    obtain ⟨n', h1, _, h3, _⟩ := t
    rw [hn] at h1; cases h1
    rw [h3]; exact List.Sublist.refl _
  | succ h =>
    obtain ⟨n', F', h1, h2, _⟩ := t
    rw [hn] at h1; cases h1
    exact nd_sub h2
theorem Tr.ks_nil {n : Nr} (t : Tr M f h b L F) (hn : M b = some n) : n.ks = [] ↔ h = 0 := by
  cases h with
  | zero =>
    obtain ⟨n', h1, h2, _⟩ := t
    rw [hn] at h1; cases h1
    simp [h2]
  | succ h =>
    obtain ⟨n', F', h1, h2, _⟩ := t
    rw [hn] at h1; cases h1
    have := nd_len h2
    constructor
    · intro e; rw [e] at this; simp at this
    · intro e; omega
theorem Tr.ks_len {n : Nr} (t : Tr M f (h + 1) b L F) (hn : M b = some n) : n.ks.length = n.es.length + 1 := by
  obtain ⟨n', F', h1, h2, _⟩ := t
  rw [hn] at h1; cases h1
  exact nd_len h2
theorem Tr.ks_le {n : Nr} (t : Tr M f h b L F) (hn : M b = some n) : n.ks.length ≤ n.es.length + 1 := by
  cases h with
  | zero => rw [(t.ks_nil hn).2 rfl]; simp
  | succ h => rw [t.ks_len hn]; exact Nat.le_refl _
end

/-- A way up from a node: each node above, and its kid's place; what lies ahead of all below, and behind; the blocks beside. -/
def Up (M : Mp) (f R H : Nat) : List (Nat × Nat) → Nat → Nat → List Ent → List Ent → List Nat → Prop
  | [], h, b, pre, post, Fo => h = H ∧ b = R ∧ pre = [] ∧ post = [] ∧ Fo = []
  | (p, i) :: up, h, b, pre, post, Fo => ∃ n E1 E2 K1 K2 A FA B FB pre' post' Fo', M p = some n ∧ n.es = E1 ++ E2 ∧ n.ks = K1 ++ b :: K2 ∧ E1.length = i ∧ 1 ≤ n.es.length ∧
      Lf (Kid M f h) K1 E1 A FA ∧ Rt (Kid M f h) E2 K2 B FB ∧ Up M f R H up (h + 1) p pre' post' Fo' ∧ (up ≠ [] → Full M f p) ∧ pre = pre' ++ A ∧ post = B ++ post' ∧ Fo = p :: (FA ++ FB ++ Fo')

section
variable {M M' : Mp} {f R H : Nat}
theorem Up.congr : ∀ {up : List (Nat × Nat)} {h b : Nat} {pre post : List Ent} {Fo : List Nat}, (∀ x ∈ Fo, M' x = M x) → Up M f R H up h b pre post Fo → Up M' f R H up h b pre post Fo
  | [], _, _, _, _, _, _, t => t
  | (p, i) :: up, h, b, pre, post, Fo, hc, ⟨n, E1, E2, K1, K2, A, FA, B, FB, pre', post', Fo', h1, h2, h3, h4, h5, h6, h7, h8, h9, h10, h11, h12⟩ => by
    subst h12
    have hp := hc p (by simp)
    exact ⟨n, E1, E2, K1, K2, A, FA, B, FB, pre', post', Fo', hp.trans h1, h2, h3, h4, h5, lf_congr (fun x hx => hc x (by simp [hx])) h6, rt_congr (fun x hx => hc x (by simp [hx])) h7, Up.congr (fun x hx => hc x (by simp [hx])) h8, fun q => (h9 q).congr hp, h10, h11, rfl⟩
/-- A node at its place makes the whole tree. -/
theorem Up.plug : ∀ {up : List (Nat × Nat)} {h b : Nat} {pre post : List Ent} {Fo : List Nat} {L : List Ent} {F : List Nat}, Up M f R H up h b pre post Fo → Tr M f h b L F → (up ≠ [] → Full M f b) → ∃ F', Tr M f H R (pre ++ L ++ post) F' ∧ F'.Perm (Fo ++ F) ∧ (up ≠ [] → ∃ n, M R = some n ∧ 1 ≤ n.es.length)
  | [], h, b, pre, post, Fo, L, F, ⟨h1, h2, h3, h4, h5⟩, t, _ => by
    subst h1 h2 h3 h4 h5
    exact ⟨F, by simpa using t, by simp, fun q => absurd rfl q⟩
  | (p, i) :: up, h, b, pre, post, Fo, L, F, ⟨n, E1, E2, K1, K2, A, FA, B, FB, pre', post', Fo', h1, h2, h3, h4, h5, h6, h7, h8, h9, h10, h11, h12⟩, t, hf => by
    subst h10 h11 h12
    have hn := nd_of h6 (show Kid M f h b L F from ⟨t, hf (by simp)⟩) h7
    rw [← h2, ← h3] at hn
    obtain ⟨F', g1, g2, g3⟩ := Up.plug h8 (show Tr M f (h + 1) p (A ++ L ++ B) (p :: (FA ++ F ++ FB)) from ⟨n, _, h1, hn, rfl⟩) h9
    refine ⟨F', by simpa using g1, g2.trans ?_, fun _ => ?_⟩
    · simp only [List.append_assoc, List.cons_append]
      refine (List.perm_middle).trans (List.Perm.cons p ?_)
      refine (List.perm_append_comm).trans ?_
      simp only [List.append_assoc]
      refine List.Perm.append_left FA ?_
      refine ((List.perm_append_comm (l₁ := F) (l₂ := FB ++ Fo')).trans ?_)
      simp
    · cases up with
      | nil =>
        obtain ⟨_, rfl, _⟩ := h8
        exact ⟨n, h1, h5⟩
      | cons u up => exact g3 (by simp)
theorem Up.dom {up : List (Nat × Nat)} {h b : Nat} {pre post : List Ent} {Fo : List Nat} (t : Up M f R H up h b pre post Fo) : ∀ {p i up'}, up = (p, i) :: up' → ∃ n, M p = some n ∧ p ∈ Fo := by
  rintro p i up' rfl
  obtain ⟨n, E1, E2, K1, K2, A, FA, B, FB, pre', post', Fo', h1, h2, h3, h4, h5, h6, h7, h8, h9, h10, h11, h12⟩ := t
  exact ⟨n, h1, by rw [h12]; simp⟩
theorem Up.height : ∀ {up : List (Nat × Nat)} {h b : Nat} {pre post : List Ent} {Fo : List Nat}, Up M f R H up h b pre post Fo → h + up.length = H
  | [], _, _, _, _, _, ⟨h1, _⟩ => by simpa using h1
  | (p, i) :: up, h, b, pre, post, Fo, ⟨n, E1, E2, K1, K2, A, FA, B, FB, pre', post', Fo', h1, h2, h3, h4, h5, h6, h7, h8, _⟩ => by
    have := h8.height
    simp; omega
end

/-- A tree: its root, how many levels lie below it, its keys in order, its blocks. -/
structure Gd (M : Mp) (f R H : Nat) (L : List Ent) (F : List Nat) : Prop where
  tr : Tr M f H R L F
  one : H ≠ 0 → ∃ n, M R = some n ∧ 1 ≤ n.es.length
  nd : F.Nodup
  srt : Srt L

end Go.Proofs.Ytkfoddblgdmabaa.tr

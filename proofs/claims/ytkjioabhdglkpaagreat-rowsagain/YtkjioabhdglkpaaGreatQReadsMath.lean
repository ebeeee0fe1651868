/- PoolReads: mathematics. -/
import Derived.Test.YtkjioabhdglkpaaGreatQFine
namespace Go.Proofs.YtkjioabhdglkpaaGreat
open Go.RowKit

def putB (V : Nat → UInt8) (k : Nat) (v : UInt8) : Nat → UInt8 := fun j => if j = k then v else V j

/-- Each page, in a frame or on the device, is as it was set last. -/
structure Vw (S : St) (V : Nat → UInt8) : Prop where
  fine : fine S.D
  n : S.D.n = 12
  v : ∀ f ∈ S.l, f.s = blk (V f.pg)
  c : ∀ f ∈ S.l, f.dirty = false → S.D.seen f.pg = f.s
  a : ∀ j, j < 12 → (∀ f ∈ S.l, f.pg ≠ j) → S.D.seen j = blk (V j)
def Loose (S : St) : Prop := ∀ f ∈ S.l, f.pins = 0

theorem perm_erase {l : List Fm} {i : Nat} {f : Fm} (hi : l[i]? = some f) : (l.eraseIdx i ++ [f]).Perm l := by
  have hlt : i < l.length := (List.getElem?_eq_some_iff.1 hi).1
  have e0 : l[i] = f := by rw [List.getElem?_eq_getElem hlt] at hi; exact Option.some.inj hi
  have e1 : l = l.take i ++ f :: l.drop (i + 1) := by rw [← e0, ← List.drop_eq_getElem_cons hlt, List.take_append_drop]
  rw [List.eraseIdx_eq_take_drop_succ]
  conv => rhs; rw [e1]
  rw [List.append_assoc]
  exact List.Perm.append_left _ (List.perm_append_comm (l₁ := l.drop (i + 1)) (l₂ := [f]))
theorem mem_split {l : List Fm} {i : Nat} {f g : Fm} (hi : l[i]? = some f) (hg : g ∈ l) : g ∈ l.eraseIdx i ∨ g = f := by
  rcases List.mem_append.1 ((perm_erase hi).mem_iff.2 hg) with q | q
  · exact Or.inl q
  · rw [List.mem_singleton] at q
    exact Or.inr q

theorem Vw.put {S : St} {V : Nat → UInt8} (h : Vw S V) (A : List Fm) (g : Fm) (r : Nat) (hA : ∀ f ∈ A, f ∈ S.l) (hB : ∀ f ∈ S.l, f ∈ A ∨ f.pg = g.pg) (hg : g.s = blk (V g.pg)) (hc : g.dirty = false → S.D.seen g.pg = g.s) : Vw { S with rd := r, l := A ++ [g] } V := by
  refine ⟨h.fine, h.n, fun f hf => ?_, fun f hf hd => ?_, fun j hj hn => ?_⟩
  · rcases List.mem_append.1 hf with q | q
    · exact h.v f (hA f q)
    · rw [List.mem_singleton] at q
      rw [q]; exact hg
  · rcases List.mem_append.1 hf with q | q
    · exact h.c f (hA f q) hd
    · rw [List.mem_singleton] at q
      rw [q] at hd ⊢
      exact hc hd
  · refine h.a j hj (fun f hf e => ?_)
    rcases hB f hf with q | q
    · exact hn f (List.mem_append_left _ q) e
    · exact hn g (by simp) (q.symm.trans e)

theorem Vw.give {b : Nat} {S : St} {V : Nat → UInt8} (h : Vw S V) (ok : OkS b S) {i : Nat} {f : Fm} (hi : S.l[i]? = some f) : (giveS S i f).1 = 0 ∧ Vw (giveS S i f).2 V ∧ (giveS S i f).2.l = S.l.eraseIdx i ∧ (giveS S i f).2.n = S.n := by
  have he := wrE_fine h.fine f
  have hno := erase_no hi ok.uniq
  unfold giveS
  rw [if_pos he]
  refine ⟨rfl, ?_, rfl, rfl⟩
  have hseen : ∀ j, (wrD S.D f).seen j = if f.dirty = true ∧ j = f.pg then f.s else S.D.seen j := by
    intro j
    unfold wrD
    by_cases hd : f.dirty = true
    · rw [if_pos hd, if_neg (by have := h.fine.1; omega), if_neg (by have := h.fine.2; omega)]
      show upd S.D.seen f.pg f.s j = _
      unfold upd
      by_cases e : j = f.pg
      · rw [if_pos e, if_pos ⟨hd, e⟩]
      · rw [if_neg e, if_neg (fun q => e q.2)]
    · rw [if_neg hd, if_neg (fun q => hd q.1)]
  refine ⟨wrD_fine h.fine f, (wrD_n _ _).trans h.n, fun g hg => h.v g (mem_erase hg), fun g hg hd => ?_, fun j hj hn => ?_⟩
  · show (wrD S.D f).seen g.pg = g.s
    rw [hseen, if_neg (fun q => hno g hg q.2)]
    exact h.c g (mem_erase hg) hd
  · show (wrD S.D f).seen j = blk (V j)
    rw [hseen]
    by_cases e : j = f.pg
    · by_cases hd : f.dirty = true
      · rw [if_pos ⟨hd, e⟩, e]
        exact h.v f (List.mem_of_getElem? hi)
      · rw [if_neg (fun q => hd q.1), e]
        have hd' : f.dirty = false := by simpa using hd
        rw [h.c f (List.mem_of_getElem? hi) hd']
        exact h.v f (List.mem_of_getElem? hi)
    · rw [if_neg (fun q => e q.2)]
      refine h.a j hj (fun g hg e2 => ?_)
      rcases mem_split hi hg with q | q
      · exact hn g q e2
      · rw [q] at e2; exact e e2.symm

theorem Vw.take {b : Nat} {S : St} {V : Nat → UInt8} (h : Vw S V) (ok : OkS b S) (lo : Loose S) : (takeS S).1 = 0 ∧ Vw (takeS S).2 V ∧ (∀ f ∈ (takeS S).2.l, f ∈ S.l) := by
  have h1 := ok.n.1
  unfold takeS
  by_cases hc : S.l.length = S.n
  · rw [if_pos hc]
    cases hS : S.l with
    | nil => rw [hS] at hc; simp at hc; omega
    | cons f0 r =>
      have hf0 := lo f0 (by rw [hS]; simp)
      unfold uAt
      rw [if_pos hf0]
      simp only [List.getElem?_cons_zero]
      have hi : S.l[0]? = some f0 := by rw [hS]; rfl
      obtain ⟨a1, a2, a3, _⟩ := h.give ok hi
      refine ⟨a1, a2, fun f hf => ?_⟩
      rw [a3] at hf
      rw [← hS]
      exact mem_erase hf
  · rw [if_neg hc]
    exact ⟨rfl, h, fun f hf => hf⟩

/-- What a look at a page tells and leaves. -/
theorem Vw.pin {b : Nat} {S : St} {V : Nat → UInt8} (h : Vw S V) (ok : OkS b S) (lo : Loose S) (k : Nat) (hk : k < 12) :
    (pinS S (k : Int)).1 = (blk (V k), 0) ∧ Vw (pinS S (k : Int)).2 V ∧ ∃ A g, (pinS S (k : Int)).2.l = A ++ [g] ∧ (∀ f ∈ A, f.pg ≠ k ∧ f.pins = 0) ∧ g.pg = k ∧ g.pins = 1 := by
  have hr : 0 ≤ (k : Int) ∧ (k : Int) < (S.D.n : Int) := ⟨by omega, by rw [h.n]; omega⟩
  cases hx : idx S.l (k : Int) with
  | some i =>
    obtain ⟨f, hi, hfa, _⟩ := idx_some hx
    have hpg : f.pg = k := by omega
    have hm := List.mem_of_getElem? hi
    have e : pinS S (k : Int) = ((f.s, 0), { S with l := S.l.eraseIdx i ++ [{ f with pins := f.pins + 1 }] }) := by
      unfold pinS
      rw [if_pos hr, hx]
      simp only
      rw [hi]
    rw [e]
    refine ⟨by rw [h.v f hm, hpg], h.put _ _ _ (fun g hg => mem_erase hg) (fun g hg => (mem_split hi hg).imp id (fun q => by rw [q])) (h.v f hm) (h.c f hm), _, _, rfl, fun g hg => ⟨by rw [← hpg]; exact erase_no hi ok.uniq g hg, lo g (mem_erase hg)⟩, hpg, ?_⟩
    show f.pins + 1 = 1
    rw [lo f hm]
  | none =>
    have hno : ∀ f ∈ S.l, f.pg ≠ k := fun f hf e => by
      obtain ⟨j, hj⟩ := List.getElem?_of_mem hf
      exact idx_none hx j f hj (by omega)
    obtain ⟨t1, t2, t3⟩ := h.take ok lo
    have e : pinS S (k : Int) = readS (takeS S).2 k := by
      unfold pinS
      rw [if_pos hr, hx]
      simp only
      rw [if_pos t1, Int.toNat_natCast]
    have e2 : readS (takeS S).2 k = (((takeS S).2.D.seen k, 0), { (takeS S).2 with rd := (takeS S).2.rd + 1, l := (takeS S).2.l ++ [⟨k, (takeS S).2.D.seen k, 1, false⟩] }) := by
      unfold readS
      rw [if_neg (by have := t2.fine.1; omega)]
    have hs : (takeS S).2.D.seen k = blk (V k) := t2.a k hk (fun f hf => hno f (t3 f hf))
    rw [e, e2]
    refine ⟨by rw [hs], t2.put _ _ _ (fun g hg => hg) (fun g hg => Or.inl hg) hs (fun _ => rfl), _, _, rfl, fun g hg => ⟨hno g (t3 g hg), lo g (t3 g hg)⟩, rfl, rfl⟩

theorem Vw.unpin {S : St} {V : Nat → UInt8} (h : Vw S V) {A : List Fm} {g : Fm} {k : Nat} (hl : S.l = A ++ [g]) (hA : ∀ f ∈ A, f.pg ≠ k ∧ f.pins = 0) (hg : g.pg = k) (hp : g.pins = 1) : (unpinS S (k : Int)).1 = 0 ∧ Vw (unpinS S (k : Int)).2 V ∧ Loose (unpinS S (k : Int)).2 := by
  rw [unpin_last (m := 0) hl (fun f hf => by have := (hA f hf).1; omega) (by omega) hp]
  have hgm : g ∈ S.l := by rw [hl]; simp
  refine ⟨rfl, h.put A { g with pins := 0 } S.rd (fun f hf => by rw [hl]; simp [hf]) (fun f hf => ?_) (h.v g hgm) (h.c g hgm), fun f hf => ?_⟩
  · rw [hl] at hf
    rcases List.mem_append.1 hf with q | q
    · exact Or.inl q
    · rw [List.mem_singleton] at q
      exact Or.inr (by rw [q])
  · rcases List.mem_append.1 hf with q | q
    · exact (hA f q).2
    · rw [List.mem_singleton] at q
      rw [q]

theorem Vw.set {S : St} {V : Nat → UInt8} (h : Vw S V) {A : List Fm} {g : Fm} {k : Nat} (hl : S.l = A ++ [g]) (hA : ∀ f ∈ A, f.pg ≠ k ∧ f.pins = 0) (hg : g.pg = k) (hp : g.pins = 1) (x : UInt8) : setS S (k : Int) (blk x) = (0, { S with l := A ++ [{ g with s := blk x, dirty := true }] }) ∧ Vw { S with l := A ++ [{ g with s := blk x, dirty := true }] } (putB V k x) := by
  refine ⟨set_last hl (fun f hf => by have := (hA f hf).1; omega) (by omega) (by omega) (blk_size x), ⟨h.fine, h.n, fun f hf => ?_, fun f hf hd => ?_, fun j hj hn => ?_⟩⟩
  · rcases List.mem_append.1 hf with q | q
    · unfold putB
      rw [if_neg (hA f q).1]
      exact h.v f (by rw [hl]; simp [q])
    · rw [List.mem_singleton] at q
      rw [q]
      unfold putB
      rw [if_pos hg]
  · rcases List.mem_append.1 hf with q | q
    · exact h.c f (by rw [hl]; simp [q]) hd
    · rw [List.mem_singleton] at q
      rw [q] at hd
      cases hd
  · have hjk : j ≠ k := fun e => hn { g with s := blk x, dirty := true } (by simp) (by rw [e]; exact hg)
    unfold putB
    rw [if_neg hjk]
    refine h.a j hj (fun f hf e => ?_)
    rw [hl] at hf
    rcases List.mem_append.1 hf with q | q
    · exact hn f (List.mem_append_left _ q) e
    · rw [List.mem_singleton] at q
      rw [q, hg] at e
      exact hjk e.symm

theorem Vw.evict {b : Nat} {S : St} {V : Nat → UInt8} (h : Vw S V) (ok : OkS b S) (lo : Loose S) (n : Int) : Vw (evictS S n).2 V ∧ Loose (evictS S n).2 := by
  unfold evictS
  split
  · exact ⟨h, lo⟩
  · split
    · exact ⟨h, lo⟩
    · rename_i f hf
      obtain ⟨_, a2, a3, _⟩ := h.give ok hf
      exact ⟨a2, fun g hg => lo g (mem_erase (by rw [a3] at hg; exact hg))⟩

theorem Vw.wrote1 {b : Nat} {S : St} {V : Nat → UInt8} (h : Vw S V) (ok : OkS b S) {i : Nat} {f : Fm} (hi : S.l[i]? = some f) : Vw (wr1 S i f) V ∧ (∀ g ∈ (wr1 S i f).l, g.dirty = true → g ∈ S.l ∧ g.pg ≠ f.pg) := by
  have he := wrE_fine h.fine f
  have hF : wrF S.D f = { f with dirty := false } := by unfold wrF; rw [if_pos he]
  have hm := List.mem_of_getElem? hi
  have huniq : ∀ g ∈ S.l, g.pg = f.pg → g = f := fun g hg e => by
    rcases mem_split hi hg with q | q
    · exact absurd e (erase_no hi ok.uniq g q)
    · exact q
  have hmem : ∀ g ∈ S.l.set i (wrF S.D f), (g ∈ S.l ∧ g.pg ≠ f.pg) ∨ g = { f with dirty := false } := fun g hg => by
    by_cases e : g = { f with dirty := false }
    · exact Or.inr e
    · obtain ⟨j, hj⟩ := List.getElem?_of_mem hg
      rw [List.getElem?_set] at hj
      split at hj
      · split at hj
        · rw [hF] at hj
          exact absurd (Option.some.inj hj).symm e
        · cases hj
      · rename_i hij
        refine Or.inl ⟨List.mem_of_getElem? hj, fun e2 => hij ?_⟩
        have e3 := huniq g (List.mem_of_getElem? hj) e2
        rw [e3] at hj
        have hlt : i < S.l.length := (List.getElem?_eq_some_iff.1 hi).1
        have hlt2 : j < S.l.length := (List.getElem?_eq_some_iff.1 hj).1
        have hn := ok.uniq
        have q1 : (S.l.map (·.pg))[i]? = (S.l.map (·.pg))[j]? := by simp [hi, hj]
        exact (List.getElem?_inj (by simpa using hlt) hn).1 q1
  have hseen : ∀ j, (wrD S.D f).seen j = if f.dirty = true ∧ j = f.pg then f.s else S.D.seen j := by
    intro j
    unfold wrD
    by_cases hd : f.dirty = true
    · rw [if_pos hd, if_neg (by have := h.fine.1; omega), if_neg (by have := h.fine.2; omega)]
      show upd S.D.seen f.pg f.s j = _
      unfold upd
      by_cases e : j = f.pg
      · rw [if_pos e, if_pos ⟨hd, e⟩]
      · rw [if_neg e, if_neg (fun q => e q.2)]
    · rw [if_neg hd, if_neg (fun q => hd q.1)]
  have hfs : (wrD S.D f).seen f.pg = f.s := by
    rw [hseen]
    by_cases hd : f.dirty = true
    · rw [if_pos ⟨hd, rfl⟩]
    · rw [if_neg (fun q => hd q.1)]
      exact h.c f hm (by simpa using hd)
  refine ⟨⟨wrD_fine h.fine f, (wrD_n _ _).trans h.n, fun g hg => ?_, fun g hg hd => ?_, fun j hj hn => ?_⟩, fun g hg hd => ?_⟩
  · rcases hmem g hg with ⟨q, _⟩ | q
    · exact h.v g q
    · rw [q]; exact h.v f hm
  · show (wrD S.D f).seen g.pg = g.s
    rcases hmem g hg with ⟨q, q2⟩ | q
    · rw [hseen, if_neg (fun z => q2 z.2)]
      exact h.c g q hd
    · rw [q]; exact hfs
  · show (wrD S.D f).seen j = blk (V j)
    have hjf : j ≠ f.pg := fun e => by
      have hlt : i < S.l.length := (List.getElem?_eq_some_iff.1 hi).1
      refine hn (wrF S.D f) ?_ (by rw [hF]; exact e.symm)
      exact List.mem_of_getElem? (i := i) (by show (S.l.set i (wrF S.D f))[i]? = _; simp [hlt])
    rw [hseen, if_neg (fun q => hjf q.2)]
    refine h.a j hj (fun g hg e => ?_)
    obtain ⟨m, hmj⟩ := List.getElem?_of_mem hg
    have hmi : i ≠ m := fun z => by
      subst z
      rw [hi] at hmj
      cases hmj
      exact hjf e.symm
    refine hn g ?_ e
    exact List.mem_of_getElem? (i := m) (by show (S.l.set i (wrF S.D f))[m]? = _; rw [List.getElem?_set, if_neg hmi]; exact hmj)
  · rcases hmem g hg with q | q
    · exact q
    · rw [q] at hd; cases hd

theorem Vw.all {V : Nat → UInt8} : ∀ (T : List Int) (b : Nat) (S : St), Vw S V → OkS b S → (∀ a ∈ T, ∃ f ∈ S.l, (f.pg : Int) = a) → (wrAll T S).1 = 0 ∧ Vw (wrAll T S).2 V ∧ ∀ g ∈ (wrAll T S).2.l, g.dirty = true → g ∈ S.l ∧ (g.pg : Int) ∉ T := by
  intro T
  induction T with
  | nil => intro b S h _ _; exact ⟨rfl, h, fun g hg _ => ⟨hg, by simp⟩⟩
  | cons a T ih =>
    intro b S h ok hT
    obtain ⟨i, f, h1, h2, h3⟩ := idx_of_mem (l := S.l) (m := S.l) (hT a (by simp)) rfl
    have e : wrAll (a :: T) S = wrAll T (wr1 S i f) := by
      conv => lhs; unfold wrAll
      rw [h1]
      simp only
      rw [h2]
      simp only
      rw [if_pos (wrE_fine h.fine f)]
    obtain ⟨v1, v2⟩ := h.wrote1 ok h2
    have hpg : (wr1 S i f).l.map (·.pg) = S.l.map (·.pg) := pgs_set h2 (wrF_pg _ _).1
    obtain ⟨r1, r2, r3⟩ := ih (b + 1) (wr1 S i f) v1 (ok.wr1 h2) (fun c hc => by
      obtain ⟨i', f', _, q2, q3⟩ := idx_of_mem (hT c (List.mem_cons_of_mem _ hc)) hpg
      exact ⟨f', List.mem_of_getElem? q2, q3⟩)
    rw [e]
    refine ⟨r1, r2, fun g hg hd => ?_⟩
    obtain ⟨m1, m2⟩ := r3 g hg hd
    obtain ⟨m3, m4⟩ := v2 g m1 hd
    refine ⟨m3, fun q => ?_⟩
    rcases List.mem_cons.1 q with z | z
    · exact m4 (by omega)
    · exact m2 z

theorem dirty_none (S : St) (h : ∀ g ∈ S.l, g.dirty = false) : dirtyS S = [] := by
  unfold dirtyS pgs
  rw [List.filter_eq_nil_iff.2 (fun g hg => by rw [h g hg]; decide)]
  simp [sortI]

theorem Vw.flush {b : Nat} {S : St} {V : Nat → UInt8} (h : Vw S V) (ok : OkS b S) : (flushS S).1 = 0 ∧ dirtyS (flushS S).2 = [] ∧ (flushS S).2.D.held = [] ∧ (∀ j, j < 12 → (flushS S).2.D.seen j = blk (V j)) ∧ (flushS S).2.D.n = 12 := by
  obtain ⟨r1, r2, r3⟩ := Vw.all (dirtyS S) b S h ok (fun a ha => pgs_mem (sortI_mem ha))
  have hclean : ∀ g ∈ (wrAll (dirtyS S) S).2.l, g.dirty = false := fun g hg => by
    cases hd : g.dirty with
    | false => rfl
    | true =>
      obtain ⟨m1, m2⟩ := r3 g hg hd
      refine absurd ?_ m2
      unfold dirtyS sortI
      rw [(List.mergeSort_perm _ _).mem_iff]
      unfold pgs
      exact List.mem_map.2 ⟨g, List.mem_filter.2 ⟨m1, hd⟩, rfl⟩
  have hleft : ¬ (wrAll (dirtyS S) S).2.D.left = 0 := by have := r2.fine.1; omega
  unfold flushS
  rw [if_pos r1]
  refine ⟨by unfold flE; rw [if_neg hleft], ?_, by show (flD _).held = []; unfold flD; rw [if_neg hleft]; rfl, fun j hj => ?_, by show (flD _).n = 12; unfold flD; rw [if_neg hleft]; exact r2.n⟩
  · exact dirty_none _ hclean
  · show (flD (wrAll (dirtyS S) S).2.D).seen j = blk (V j)
    have e : (flD (wrAll (dirtyS S) S).2.D).seen = (wrAll (dirtyS S) S).2.D.seen := by unfold flD; rw [if_neg hleft]; rfl
    rw [e]
    by_cases q : ∃ f ∈ (wrAll (dirtyS S) S).2.l, f.pg = j
    · obtain ⟨f, hf, rfl⟩ := q
      rw [r2.c f hf (hclean f hf)]
      exact r2.v f hf
    · exact r2.a j hj (fun f hf e => q ⟨f, hf, e⟩)

theorem vw_new (n : Nat) : Vw ⟨n, [], 0, 0, D0 12⟩ (fun _ => 0) ∧ Loose ⟨n, [], 0, 0, D0 12⟩ :=
  ⟨⟨show fine (D0 12) from ⟨by decide, by decide⟩, rfl, fun f hf => (by cases hf), fun f hf => (by cases hf), fun _ _ _ => rfl⟩, fun f hf => (by cases hf)⟩

/-- A crash, of a device that has nothing that is held back. -/
theorem crash_none (D : DS) (h : D.held = []) : (D.crashed []).seen = D.seen ∧ (D.crashed []).left = -1 ∧ (D.crashed []).n = D.n := by
  unfold DS.crashed
  rw [h]
  exact ⟨rfl, rfl, rfl⟩

theorem Q1.crash {W w : World} {p g bd : Nat} {S : St} {E : List (Nat × Obj)} (h : Q1 W w p g bd S E) (hbd : bd ≤ 8000000) : Calls Tryz.prog 22 #[.pointer (some ⟨g, 0, none⟩), .slice none 0 0] w fun e w' => e = .returned (.tuple #[]) ∧ Q1 W w' p g bd { S with D := S.D.crashed [] } E := by
  obtain ⟨x, e1, rfl, rfl, e4, e5, e6⟩ := h.ex
  have hi := e5.ok.inv
  have hlen : x.D.held.length ≤ bd := hi.len
  refine (crash_any e4.dev [] none 0 (Or.inl rfl) (fun b off e => by cases e) hi.held hi.safe (by omega)).mono ?_
  rintro e w' ⟨rfl, d', f⟩
  obtain ⟨dv', t⟩ := e4.devTo (.nil d' f)
  have o := e5.ok
  exact ⟨rfl, Q1.step e1 rfl e4 e6 h.bel t rfl ⟨e5.fv, e5.O, ⟨hi.crashed [], o.pg, o.uniq, o.n, o.len, o.rd, o.wr⟩⟩⟩
end Go.Proofs.YtkjioabhdglkpaaGreat

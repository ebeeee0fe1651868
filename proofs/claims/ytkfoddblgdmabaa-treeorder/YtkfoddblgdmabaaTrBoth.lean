/- Layer 10: a tree and the document's tree, side by side. -/
import Derived.Test.YtkfoddblgdmabaaTrRefAll
import Derived.Test.YtkfoddblgdmabaaTrCopy
import Derived.Test.YtkfoddblgdmabaaTrWakes
namespace Go.Proofs.Ytkfoddblgdmabaa.tr
open Go.RowKit

/-- The types of a tree's blocks; of the document's. -/
def tT (T : TypeId) : Prop := T = 68 ∨ T = 58 ∨ T = 65 ∨ T = 70
def rT (T : TypeId) : Prop := T = 32 ∨ T = 54
/-- Blocks that are neither's stay. -/
def Oth (w w' : World) : Prop := ∀ (k : Nat) (cur : Array Value) (T : TypeId), w.heap[k]? = some (Obj.cells cur T (0, 0)) → ¬ tT T → ¬ rT T → w'.heap[k]? = w.heap[k]?
theorem Oth.refl (w : World) : Oth w w := fun _ _ _ _ _ _ => rfl
theorem Oth.trans {a b c : World} (h : Oth a b) (g : Oth b c) : Oth a c := fun k cur T h1 h2 h3 => (g k cur T ((h k cur T h1 h2 h3).trans h1) h2 h3).trans (h k cur T h1 h2 h3)
theorem Oth.of_below {w w' : World} (h : Below w.heap.size w w') : Oth w w' := fun k _ _ h1 _ _ => h.block k (Array.getElem?_eq_some_iff.1 h1).1

section
variable {W w w' : World} {B tb f q : Nat} {M M' : Mp} {v : Value} {L L' Lt Lr : List Ent}
theorem Te.tag (t : Te w B tb f M L) {k : Nat} (hk : Tf tb M k) : ∃ cur T, w.heap[k]? = some (.cells cur T (0, 0)) ∧ tT T := by
  obtain ⟨R, H, F, h1, m, _⟩ := t.ex
  rcases hk with ⟨b, n, hn, rfl | e | e⟩ | rfl
  · exact ⟨_, _, (m.top _ n hn).1, Or.inl rfl⟩
  · obtain ⟨cur, h⟩ := row_obj (m.ents b n hn) e
    exact ⟨cur, _, h, Or.inr (Or.inl rfl)⟩
  · obtain ⟨cur, h⟩ := row_obj (m.kids b n hn) e
    exact ⟨cur, _, h, Or.inr (Or.inr (Or.inl rfl))⟩
  · exact ⟨_, _, h1, Or.inr (Or.inr (Or.inr rfl))⟩
theorem Rf.tag (h : Rf B w q v L) {k : Nat} (hk : k = q ∨ v.ownBlock = some k) : ∃ cur T, w.heap[k]? = some (.cells cur T (0, 0)) ∧ rT T := by
  rcases hk with rfl | e
  · exact ⟨_, _, h.top, Or.inl rfl⟩
  · obtain ⟨cur, h⟩ := row_obj h.row e
    exact ⟨cur, _, h, Or.inr rfl⟩
theorem tags_ne {T : TypeId} (h : tT T) (g : rT T) : False := by
  rcases h with rfl | rfl | rfl | rfl <;> rcases g with g | g <;> revert g <;> decide
theorem Te.away (t : Te w B tb f M L) {k : Nat} {cur : Array Value} {T : TypeId} (h : w.heap[k]? = some (.cells cur T (0, 0))) (hT : ¬ tT T) : ¬ Tf tb M k := fun hk => by
  obtain ⟨c2, T2, h2, q⟩ := t.tag hk
  rw [h] at h2
  cases h2
  exact hT q
theorem Rf.away (r : Rf B w q v L) {k : Nat} {cur : Array Value} {T : TypeId} (h : w.heap[k]? = some (.cells cur T (0, 0))) (hT : ¬ rT T) : ¬ (k = q ∨ v.ownBlock = some k) := fun hk => by
  obtain ⟨c2, T2, h2, z⟩ := r.tag hk
  rw [h] at h2
  cases h2
  exact hT z
theorem TeTo.oth (h : TeTo w tb M w' M') (t : Te w B tb f M L) : Oth w w' := fun k _ _ h1 h2 _ => h.fr.block k (Array.getElem?_eq_some_iff.1 h1).1 (t.away h1 h2)
theorem Rf.oth {l' : List Ent} (r : Rf B w q v L) (h : RfTo B w w' q v l') : Oth w w' := fun k _ _ h1 _ h3 => by
  obtain ⟨v', _, fr, _⟩ := h.ex
  exact fr.block k (Array.getElem?_eq_some_iff.1 h1).1 (r.away h1 h3)

/-- Keys that are no longer than they may be. -/
def Ks (L : List Ent) : Prop := ∀ e ∈ L, e.key.size ≤ 4096
theorem Ks.put {key : ByteArray} {z : Int} (h : Ks L) : Ks (putT key z L).2.2 := by
  unfold putT
  split
  · exact h
  rename_i hk
  have hp : Ks (putL key z L) := fun e he => by
    unfold putL at he
    rcases List.mem_append.1 he with q | q
    · exact h e (List.mem_of_mem_take q)
    rcases List.mem_cons.1 q with rfl | q
    · exact Nat.not_lt.1 hk
    · split at q
      · split at q
        · exact h e (List.mem_of_mem_drop q)
        · exact h e (List.mem_of_mem_drop q)
      · cases q
  split
  · exact hp
  split
  · exact h
  · exact hp
theorem Ks.del {key : ByteArray} (h : Ks L) : Ks (delL key L) := by
  unfold delL
  split
  · exact fun e he => h e (List.mem_of_mem_eraseIdx he)
  · exact h

/-- Both trees, in blocks behind those of a world. -/
structure Bt (W w : World) (tb f q : Nat) (Lt Lr : List Ent) : Prop where
  ex : ∃ M v, Te w W.heap.size tb f M Lt ∧ Rf W.heap.size w q v Lr
  bel : Below W.heap.size W w
  ks : Ks Lt
  rlen : Lr.length ≤ 4096
theorem Bt.below (b : Bt W w tb f q Lt Lr) (h : Below w.heap.size w w') : Bt W w' tb f q Lt Lr := by
  obtain ⟨⟨M, v, t, r⟩, hb, hk, hl⟩ := b
  exact ⟨⟨M, v, t.below h, r.below h⟩, hb.trans (h.mono hb.size), hk, hl⟩
theorem putT_len (key : ByteArray) (z : Int) (hs : Srt L) (hl : L.length ≤ 4096) : (putT key z L).2.2.length ≤ 4096 := by
  have h := putL_len key z L hs
  unfold putT
  split
  · exact hl
  split
  · rename_i e
    rw [if_pos e] at h
    show (putL key z L).length ≤ 4096
    omega
  split
  · exact hl
  · show (putL key z L).length ≤ 4096
    split at h <;> omega
theorem delL_le (key : ByteArray) (hs : Srt L) : (delL key L).length ≤ L.length := by
  have h := delL_len key L hs
  split at h <;> omega
theorem Bt.srt (b : Bt W w tb f q Lt Lr) : Srt Lt := by obtain ⟨M, v, t, _⟩ := b.ex; exact t.srt
theorem Bt.len (b : Bt W w tb f q Lt Lr) : Lt.length ≤ 4096 := by obtain ⟨M, v, t, _⟩ := b.ex; exact t.len
theorem Bt.fan (b : Bt W w tb f q Lt Lr) : 3 ≤ f ∧ f ≤ 64 := by obtain ⟨M, v, t, _⟩ := b.ex; exact t.fan

/-- The calls of the one. -/
theorem Bt.put (b : Bt W w tb f q Lt Lr) (key : ByteArray) (z : Int) (hk : key.size ≤ 281474976710656) : Calls Try.prog 12 #[.pointer (some ⟨tb, 0, none⟩), .string key, .int .i64 z] w fun e w' => e = .returned (.tuple #[.bool (putT key z Lt).1, .int .i64 (putT key z Lt).2.1]) ∧ Bt W w' tb f q (putT key z Lt).2.2 Lr ∧ Oth w w' := by
  obtain ⟨⟨M, v, t, r⟩, hb, hks, hl⟩ := b
  refine (put_any t key z hk).mono ?_
  rintro e w' ⟨he, M', t', to⟩
  have b : Bt W w tb f q Lt Lr := ⟨⟨M, v, t, r⟩, hb, hks, hl⟩
  refine ⟨he, ⟨⟨M', v, t', r.kept (fun j e => ?_)⟩, hb.trans (to.below t), hks.put, hl⟩, to.oth t⟩
  obtain ⟨cur, T, h1, h2⟩ := r.tag e
  exact to.fr.block j (r.lt e).2 (t.away h1 (fun z => tags_ne z h2))
theorem Bt.del (b : Bt W w tb f q Lt Lr) (key : ByteArray) : Calls Try.prog 14 #[.pointer (some ⟨tb, 0, none⟩), .string key] w fun e w' => e = .returned (.bool (hasL key Lt)) ∧ Bt W w' tb f q (delL key Lt) Lr ∧ Oth w w' := by
  obtain ⟨⟨M, v, t, r⟩, hb, hks, hl⟩ := b
  refine (delete_any t key).mono ?_
  rintro e w' ⟨he, M', t', to⟩
  refine ⟨he, ⟨⟨M', v, t', r.kept (fun j e => ?_)⟩, hb.trans (to.below t), hks.del, hl⟩, to.oth t⟩
  obtain ⟨cur, T, h1, h2⟩ := r.tag e
  exact to.fr.block j (r.lt e).2 (t.away h1 (fun z => tags_ne z h2))
theorem Bt.get (b : Bt W w tb f q Lt Lr) (key : ByteArray) : Calls Try.prog 26 #[.pointer (some ⟨tb, 0, none⟩), .string key] w fun e w' => e = .returned (.tuple #[.int .i64 (getL key Lt), .bool (hasL key Lt)]) ∧ Bt W w' tb f q Lt Lr ∧ Below w.heap.size w w' := by
  obtain ⟨M, v, t, r⟩ := b.ex
  refine (get_any t key).mono ?_
  rintro e w' ⟨he, h⟩
  exact ⟨he, b.below h, h⟩
theorem Bt.at (b : Bt W w tb f q Lt Lr) (key : ByteArray) : Calls Try.prog 27 #[.pointer (some ⟨tb, 0, none⟩), .string key] w fun e w' => e = .returned (.tuple (nearV (atL key Lt)).toArray) ∧ Bt W w' tb f q Lt Lr ∧ Below w.heap.size w w' := by
  obtain ⟨M, v, t, r⟩ := b.ex
  refine (at_key t key b.ks).mono ?_
  rintro e w' ⟨he, h⟩
  exact ⟨he, b.below h, h⟩
theorem Bt.before (b : Bt W w tb f q Lt Lr) (key : ByteArray) : Calls Try.prog 28 #[.pointer (some ⟨tb, 0, none⟩), .string key] w fun e w' => e = .returned (.tuple (nearV (beL key Lt)).toArray) ∧ Bt W w' tb f q Lt Lr ∧ Below w.heap.size w w' := by
  obtain ⟨M, v, t, r⟩ := b.ex
  refine (before_key t key b.ks).mono ?_
  rintro e w' ⟨he, h⟩
  exact ⟨he, b.below h, h⟩
theorem Bt.range (b : Bt W w tb f q Lt Lr) (key to : ByteArray) (most : Int) : Calls Try.prog 21 #[.pointer (some ⟨tb, 0, none⟩), .string key, .string to, .int .i64 most] w fun e w' => ∃ v, e = .returned v ∧ RowE w' w.heap.size v (tk to most [] (rg key Lt)) ∧ Bt W w' tb f q Lt Lr ∧ Below w.heap.size w w' := by
  obtain ⟨M, v, t, r⟩ := b.ex
  refine (range_any t key to most b.ks).mono ?_
  rintro e w' ⟨v', he, row, h⟩
  exact ⟨v', he, row, b.below h, h⟩
theorem Bt.tlen (b : Bt W w tb f q Lt Lr) : Calls Try.prog 25 #[.pointer (some ⟨tb, 0, none⟩)] w fun e w' => e = .returned (.int .i64 (Lt.length : Int)) ∧ w' = w := by
  obtain ⟨M, v, t, r⟩ := b.ex
  exact len_any t
theorem Bt.depth (b : Bt W w tb f q Lt Lr) : ∃ d, Dp f Lt.length d ∧ d ≤ 5000 ∧ ∀ V, Below w.heap.size w V → Calls Try.prog 18 #[.pointer (some ⟨tb, 0, none⟩)] V fun e w' => e = .returned (.int .i64 (d : Int)) ∧ w' = V := by
  obtain ⟨M, v, t, r⟩ := b.ex
  exact depth_at t
theorem Bt.copy (b : Bt W w tb f q Lt Lr) : Calls Try.prog 16 #[.pointer (some ⟨tb, 0, none⟩)] w fun e w' => ∃ tc, e = .returned (.pointer (some ⟨tc, 0, none⟩)) ∧ Bt W w' tc f q Lt Lr ∧ Below w.heap.size w w' := by
  obtain ⟨M, v, t, r⟩ := b.ex
  refine (tcopy_any t).mono ?_
  rintro e w' ⟨tc, M2, he, t2, h⟩
  have hb := b.bel
  exact ⟨tc, he, ⟨⟨M2, v, t2.mono hb.size, r.below h⟩, hb.trans (h.mono hb.size), b.ks, b.rlen⟩, h⟩
/-- The calls of the other one. -/
theorem Bt.rput (b : Bt W w tb f q Lt Lr) (key : ByteArray) (z : Int) (hs : Srt Lr) : Calls Try.prog 13 #[.pointer (some ⟨q, 0, none⟩), .string key, .int .i64 z] w fun e w' => e = .returned (.tuple #[.bool (putT key z Lr).1, .int .i64 (putT key z Lr).2.1]) ∧ Bt W w' tb f q Lt (putT key z Lr).2.2 ∧ Oth w w' := by
  obtain ⟨M, v, t, r⟩ := b.ex
  refine (rput_any r b.bel.size b.rlen key z).mono ?_
  rintro e w' ⟨he, to⟩
  obtain ⟨v', r', fr, new⟩ := to.ex
  refine ⟨he, ⟨⟨M, v', t.kept (fun k e => ?_), r'⟩, ?_, b.ks, putT_len key z hs b.rlen⟩, r.oth to⟩
  · obtain ⟨cur, T, h1, h2⟩ := t.tag e
    exact fr.block k (t.lt e).2 (r.away h1 (fun z => tags_ne h2 z))
  · exact b.bel.trans (fr.below (Below.refl _ _) b.bel.size (fun k e => (r.lt e).1))
theorem Bt.rdel (b : Bt W w tb f q Lt Lr) (key : ByteArray) (hs : Srt Lr) : Calls Try.prog 15 #[.pointer (some ⟨q, 0, none⟩), .string key] w fun e w' => e = .returned (.bool (hasL key Lr)) ∧ Bt W w' tb f q Lt (delL key Lr) ∧ Oth w w' := by
  obtain ⟨M, v, t, r⟩ := b.ex
  refine (rdel_any r b.bel.size (by have := b.rlen; omega) key).mono ?_
  rintro e w' ⟨he, to⟩
  obtain ⟨v', r', fr, new⟩ := to.ex
  refine ⟨he, ⟨⟨M, v', t.kept (fun k e => ?_), r'⟩, ?_, b.ks, Nat.le_trans (delL_le key hs) b.rlen⟩, r.oth to⟩
  · obtain ⟨cur, T, h1, h2⟩ := t.tag e
    exact fr.block k (t.lt e).2 (r.away h1 (fun z => tags_ne h2 z))
  · exact b.bel.trans (fr.below (Below.refl _ _) b.bel.size (fun k e => (r.lt e).1))
theorem Bt.rget (b : Bt W w tb f q Lt Lr) (key : ByteArray) : Calls Try.prog 24 #[.pointer (some ⟨q, 0, none⟩), .string key] w fun e w' => e = .returned (.tuple #[.int .i64 (getL key Lr), .bool (hasL key Lr)]) ∧ w' = w := by
  obtain ⟨M, v, t, r⟩ := b.ex
  exact rget_any r (by have := b.rlen; omega) key
theorem Bt.rat (b : Bt W w tb f q Lt Lr) (key : ByteArray) : Calls Try.prog 37 #[.pointer (some ⟨q, 0, none⟩), .string key] w fun e w' => e = .returned (.tuple #[optE (atL key Lr), .bool (atL key Lr).isSome]) ∧ Bt W w' tb f q Lt Lr ∧ Below w.heap.size w w' := by
  obtain ⟨M, v, t, r⟩ := b.ex
  refine (ratk_any r (by have := b.rlen; omega) key).mono ?_
  rintro e w' ⟨he, h⟩
  exact ⟨he, b.below h, h⟩
theorem Bt.rbefore (b : Bt W w tb f q Lt Lr) (key : ByteArray) : Calls Try.prog 38 #[.pointer (some ⟨q, 0, none⟩), .string key] w fun e w' => e = .returned (.tuple #[optE (beL key Lr), .bool (beL key Lr).isSome]) ∧ Bt W w' tb f q Lt Lr ∧ Below w.heap.size w w' := by
  obtain ⟨M, v, t, r⟩ := b.ex
  refine (rbefore_any r (by have := b.rlen; omega) key).mono ?_
  rintro e w' ⟨he, h⟩
  exact ⟨he, b.below h, h⟩
theorem Bt.rrange (b : Bt W w tb f q Lt Lr) (key to : ByteArray) (most : Int) : Calls Try.prog 22 #[.pointer (some ⟨q, 0, none⟩), .string key, .string to, .int .i64 most] w fun e w' => ∃ v, e = .returned v ∧ RowR w' w.heap.size v (tk to most [] (rg key Lr)) ∧ Bt W w' tb f q Lt Lr ∧ Below w.heap.size w w' := by
  obtain ⟨M, v, t, r⟩ := b.ex
  refine (rrange_any r (by have := b.rlen; omega) key to most).mono ?_
  rintro e w' ⟨v', he, row, h⟩
  exact ⟨v', he, row, b.below h, h⟩
/-- Both, made anew. -/
theorem Bt.start {M : Mp} (t : Te w W.heap.size tb f M []) (hb : Below W.heap.size W w) : Bt W (w.alloc (.cells #[.slice none 0 0] 32)) tb f w.heap.size [] [] := by
  have h := below_alloc1 w (.cells #[.slice none 0 0] 32)
  exact ⟨⟨M, _, t.below h, ⟨heap_alloc_new _ _, grow_nil _ _ _ _ _, hb.size⟩⟩, hb.trans (h.mono hb.size), (fun e he => by cases he), Nat.zero_le _⟩
end

end Go.Proofs.Ytkfoddblgdmabaa.tr

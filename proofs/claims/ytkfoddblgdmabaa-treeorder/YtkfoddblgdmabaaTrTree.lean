/- Layer 10: a tree in memory; New, Len, Get. -/
import Derived.Test.YtkfoddblgdmabaaTrRemove
import Derived.Test.YtkfoddblgdmabaaDClone
namespace Go.Proofs.Ytkfoddblgdmabaa.tr
open Go.RowKit

/-- A tree in memory: its keys in order, in blocks from B on. -/
structure Te (w : World) (B tb f : Nat) (M : Mp) (L : List Ent) : Prop where
  ex : ∃ R H F, w.heap[tb]? = some (tobj f R L.length) ∧ Mm w B M ∧ Gd M f R H L F
  base : B ≤ tb
  fan : 3 ≤ f ∧ f ≤ 64
  len : L.length ≤ 4096
def Tf (tb : Nat) (M : Mp) (k : Nat) : Prop := Ft M k ∨ k = tb
/-- What a call may change. -/
structure TeTo (w : World) (tb : Nat) (M : Mp) (w' : World) (M' : Mp) : Prop where
  fr : Fr (Tf tb M) w w'
  ft : ∀ k, Ft M' k → Ft M k ∨ w.heap.size ≤ k

section
variable {w w' w'' : World} {B tb f : Nat} {M M' M'' : Mp} {L : List Ent}
theorem Te.srt (t : Te w B tb f M L) : Srt L := by obtain ⟨R, H, F, _, _, g⟩ := t.ex; exact g.srt
theorem Te.lt (t : Te w B tb f M L) {k : Nat} (h : Tf tb M k) : B ≤ k ∧ k < w.heap.size := by
  obtain ⟨R, H, F, h1, h2, _⟩ := t.ex
  rcases h with h | rfl
  · exact h2.lt h
  · exact ⟨t.base, (Array.getElem?_eq_some_iff.1 h1).1⟩
theorem Te.kept (t : Te w B tb f M L) (h : ∀ k, Tf tb M k → w'.heap[k]? = w.heap[k]?) : Te w' B tb f M L := by
  obtain ⟨R, H, F, h1, h2, h3⟩ := t.ex
  exact ⟨⟨R, H, F, (h tb (Or.inr rfl)).trans h1, h2.kept (fun k hk => h k (Or.inl hk)), h3⟩, t.base, t.fan, t.len⟩
theorem Te.below (t : Te w B tb f M L) (hb : Below w.heap.size w w') : Te w' B tb f M L := t.kept (fun k hk => hb.block k (t.lt hk).2)
theorem TeTo.refl (w : World) (tb : Nat) (M : Mp) : TeTo w tb M w M := ⟨Fr.refl _ _, fun _ h => Or.inl h⟩
theorem TeTo.of_below (hb : Below w.heap.size w w') : TeTo w tb M w' M := ⟨Fr.of_below hb, fun _ h => Or.inl h⟩
theorem TeTo.trans (h : TeTo w tb M w' M') (g : TeTo w' tb M' w'' M'') : TeTo w tb M w'' M'' :=
  ⟨h.fr.trans g.fr (fun i hi hf => hf.elim (fun q => (h.ft i q).elim Or.inl (fun q2 => by omega)) Or.inr), fun k hk => (g.ft k hk).elim (h.ft k) (fun q => Or.inr (Nat.le_trans h.fr.size q))⟩
/-- What is told of the whole holds of what lies behind it. -/
theorem TeTo.below (h : TeTo w tb M w' M') (t : Te w B tb f M L) : Below B w w' := h.fr.below (Below.refl _ _) (Nat.le_trans t.base (Nat.le_of_lt (t.lt (Or.inr rfl)).2)) (fun _ hk => (t.lt hk).1)
theorem Te.mono {B' : Nat} (t : Te w B tb f M L) (hB : B' ≤ B) : Te w B' tb f M L := by
  obtain ⟨R, H, F, h1, h2, h3⟩ := t.ex
  exact ⟨⟨R, H, F, h1, ⟨fun b n hn => ⟨(h2.top b n hn).1, Nat.le_trans hB (h2.top b n hn).2⟩, fun b n hn => (h2.ents b n hn).mono hB, fun b n hn => (h2.kids b n hn).mono hB, h2.apE, h2.apK⟩, h3⟩, Nat.le_trans hB t.base, t.fan, t.len⟩

set_option maxHeartbeats 800000 in
theorem new_any (w : World) (f : Nat) (h3 : 3 ≤ f) (h64 : f ≤ 64) : Calls Try.prog 9 #[.int .i64 (f : Int)] w fun e w' => ∃ tb M, e = .returned (.tuple #[.pointer (some ⟨tb, 0, none⟩), .int .i64 0]) ∧ Te w' w.heap.size tb f M [] ∧ Below w.heap.size w w' := by
  have g1 : ¬ ((f : Int) < 3) := by omega
  have g2 : ¬ ((64 : Int) < (f : Int)) := by omega
  go_enter Try.func9, Try.ntmps9
  go_wp2_with fail
  go_ret2
  have hb1 := below_alloc1 w (nobj (.slice none 0 0) (.slice none 0 0))
  have m0 : Mm w w.heap.size (fun _ => none) := ⟨fun _ _ h => (by cases h), fun _ _ h => (by cases h), fun _ _ h => (by cases h), fun _ _ _ _ _ h => (by cases h), fun _ _ _ _ _ h => (by cases h)⟩
  obtain ⟨m1, _, _⟩ := m0.new (b := w.heap.size) (n' := ⟨.slice none 0 0, .slice none 0 0, [], []⟩) hb1 (Nat.le_refl _) (Nat.le_refl _) (heap_alloc_new _ _) (grow_nil _ _ _ _ _) (grow_nil _ _ _ _ _)
  have hb2 := below_alloc1 (w.alloc (nobj (.slice none 0 0) (.slice none 0 0))) (tobj f w.heap.size 0)
  refine ⟨w.heap.size + 1, rfl, ⟨_, ⟨w.heap.size, 0, [w.heap.size], alloc_one _ _ _, m1.below hb2, ⟨⟨_, Mp.put_same _ _ _, rfl, rfl, rfl⟩, fun q => absurd rfl q, by simp, List.Pairwise.nil⟩⟩, by omega, ⟨h3, h64⟩, by simp⟩, below2 hb1 hb2⟩
set_option maxHeartbeats 800000 in
theorem new_bad (w : World) (i : Int) (h : i < 3 ∨ 64 < i) (hi : -9223372036854775808 ≤ i ∧ i ≤ 9223372036854775807) : Calls Try.prog 9 #[.int .i64 i] w fun e w' => e = .returned (.tuple #[.pointer none, .int .i64 1]) ∧ w' = w := by
  by_cases g1 : i < 3
  · go_enter Try.func9, Try.ntmps9
    go_wp2_with fail
    go_ret2
    exact ⟨rfl, rfl⟩
  · have g2 : 64 < i := by omega
    go_enter Try.func9, Try.ntmps9
    go_wp2_with fail
    go_ret2
    exact ⟨rfl, rfl⟩

set_option maxHeartbeats 800000 in
theorem len_any (t : Te w B tb f M L) : Calls Try.prog 25 #[.pointer (some ⟨tb, 0, none⟩)] w fun e w' => e = .returned (.int .i64 (L.length : Int)) ∧ w' = w := by
  obtain ⟨R, H, F, h1, _, _⟩ := t.ex
  have c2 := (cell_obj (j := 2) h1).1
  clear h1 t
  generalize L.length = n at *
  go_enter Try.func25, Try.ntmps25
  go_wp2_with fail
  go_ret
  exact ⟨rfl, rfl⟩

theorem getL_mem {T : List Ent} {e : Ent} (hs : Srt T) (h : e ∈ T) : getL e.key T = e.n ∧ hasL e.key T = true := by
  obtain ⟨A, C, rfl⟩ := List.append_of_mem h
  exact ⟨getL_old (lo_of hs), hasL_old (lo_of hs)⟩
theorem Fd.mem {M : Mp} {f R H h b i : Nat} {T : List Ent} {e : Ent} {up : List (Nat × Nat)} (d : Fd M f R H T e up h b i) : e ∈ T := by
  obtain ⟨pre, L, post, Fo, F, n, s, hT, hn, hi, _⟩ := d.ex
  have h1 := (s.tr.es_sub hn).subset (List.mem_of_getElem? hi)
  rw [hT]
  simp [h1]
theorem Res.none {M : Mp} {f R H : Nat} {T : List Ent} {key : ByteArray} {way : List (Nat × Nat)} (g : Res M f R H T key way false) (hs : Srt T) : hasL key T = false ∧ getL key T = 0 := by
  obtain ⟨up, h, b, pre, L, post, Fo, F, n, hw, s, hT, hn, hlo, hhi, hth, h0, hf, h1⟩ := g.ex
  have e0 := h0 rfl
  subst e0 hT
  obtain ⟨n', e1, e2, e3, e4⟩ := s.tr
  rw [hn] at e1; cases e1
  obtain ⟨E1, E2, c1, c2, c3, c4⟩ := pos_cut key n.es (s.sorted hs hn)
  have hE2 : Hi E2 key := by
    rcases c4 with c4 | ⟨y, E', rfl, ey, c4⟩
    · exact c4
    · rw [c1, ← ey, hasL_old (by rw [ey]; exact c3)] at hth
      cases hth
  rw [← e3, c1, show pre ++ (E1 ++ E2) ++ post = (pre ++ E1) ++ (E2 ++ post) by simp]
  exact ⟨hasL_new (Lo.app.2 ⟨hlo, c3⟩) (Hi.app.2 ⟨hE2, hhi⟩), getL_new (Lo.app.2 ⟨hlo, c3⟩) (Hi.app.2 ⟨hE2, hhi⟩)⟩

set_option maxHeartbeats 1600000 in
theorem get_any (t : Te w B tb f M L) (key : ByteArray) : Calls Try.prog 26 #[.pointer (some ⟨tb, 0, none⟩), .string key] w fun e w' => e = .returned (.tuple #[.int .i64 (getL key L), .bool (hasL key L)]) ∧ Below w.heap.size w w' := by
  obtain ⟨R, H, F, h1, m, g⟩ := t.ex
  have hwk := walk_any m (cell_obj (j := 1) h1).1 g t.fan.1 (by have := t.len; omega) key
  have hsrt := g.srt
  clear h1
  go_enter Try.func26, Try.ntmps26
  go_wp2_with fail
  go_at_call 29
  refine hwk.mono ?_
  clear hwk
  rintro e w1 ⟨v, way, there, rfl, row, hb, res⟩
  cases there with
  | false =>
    obtain ⟨e1, e2⟩ := res.none hsrt
    go_simp
    go_wp2_with fail
    go_ret2
    rw [e1, e2]
    exact ⟨rfl, hb⟩
  | true =>
    obtain ⟨up, h, b, i, e, rfl, rfl, fd⟩ := res.found hsrt
    obtain ⟨e1, e2⟩ := getL_mem hsrt fd.mem
    obtain ⟨pre, L', post, Fo, F', n, sp, hT, hn, hi, _⟩ := fd.ex
    go_simp
    go_wp2_with (first | (go_at_call 30; refine (last_any row (q := (b, i)) (by simp)).mono ?_; rintro e' w2 ⟨rfl, hb2⟩) | (go_at_call 31; refine (entry_any ((m.below hb).below hb2) hn hi).mono ?_; rintro e' w3 ⟨⟨rb, rc, er, rfl⟩, hb3⟩; obtain ⟨rb', rc', er', _, _, _, q1, q2, _, _⟩ := (((m.below hb).below hb2).below hb3).ent hn hi; rw [er] at er'; injection er' with er' _ _; injection er' with er'; injection er' with er' _ _; subst er'))
    go_ret2
    rw [e1, e2]
    exact ⟨rfl, (hb.trans (hb2.mono hb.size)).trans (hb3.mono (Nat.le_trans hb.size hb2.size))⟩

set_option maxHeartbeats 1600000 in
theorem delete_any (t : Te w B tb f M L) (key : ByteArray) : Calls Try.prog 14 #[.pointer (some ⟨tb, 0, none⟩), .string key] w fun e w' => e = .returned (.bool (hasL key L)) ∧ ∃ M', Te w' B tb f M' (delL key L) ∧ TeTo w tb M w' M' := by
  obtain ⟨R, H, F, h1, m, g⟩ := t.ex
  have hwk := walk_any m (cell_obj (j := 1) h1).1 g t.fan.1 (by have := t.len; omega) key
  have hsrt := g.srt
  have hhi := g.high t.fan.1
  have hlen := t.len
  go_enter Try.func14, Try.ntmps14
  go_wp2_with fail
  go_at_call 29
  refine hwk.mono ?_
  clear hwk
  rintro e w1 ⟨v, way, there, rfl, row, hb, res⟩
  cases there with
  | false =>
    obtain ⟨e1, e2⟩ := res.none hsrt
    have e3 : delL key L = L := by unfold delL; rw [e1]; rfl
    go_simp
    go_wp2_with fail
    go_ret
    rw [e1, e3]
    exact ⟨rfl, M, t.below hb, TeTo.of_below hb⟩
  | true =>
    obtain ⟨up, h, b, i, e, rfl, rfl, fd⟩ := res.found hsrt
    obtain ⟨e1, e2⟩ := getL_mem hsrt fd.mem
    have hd := delL_len e.key L hsrt
    rw [e2] at hd
    simp only [if_true] at hd
    have hvv : ∀ k, v.ownBlock = some k → ¬ Ft M k ∧ k ≠ tb := fun k q => by
      have h2 := (row.blk q).1
      exact ⟨fun q2 => by have := (t.lt (Or.inl q2)).2; omega, fun q2 => by have := (t.lt (k := tb) (Or.inr rfl)).2; omega⟩
    have hrm := remove_any (s := (delL e.key L).length) (m.below hb) (Nat.le_trans (by have := (t.lt (k := tb) (Or.inr rfl)); have := t.base; omega) hb.size) (by rw [hd]; exact (hb.block tb (t.lt (Or.inr rfl)).2).trans h1) (row.mono (Nat.zero_le _)) hvv (by omega) t.fan.1 t.fan.2 (by omega) (by omega) fd hsrt
    clear h1
    go_simp
    go_wp2_with ((try go_at_call 35); refine hrm.mono ?_; clear hrm; rintro e' w2 ⟨rfl, M', R', H', F', m', h1', g', fr', ft'⟩)
    go_ret
    rw [e2]
    have hft : ∀ k, Ft M' k → Ft M k ∨ w.heap.size ≤ k := fun k hk => (ft' k hk).imp id (fun q => Nat.le_trans hb.size q)
    refine ⟨rfl, M', ⟨⟨R', H', F', h1', m', g'⟩, t.base, t.fan, by omega⟩, ⟨(Fr.of_below hb).trans fr' (fun k hk q => ?_), hft⟩⟩
    rcases q with q | q | q
    · exact Or.inl q
    · exact Or.inr q
    · have := (row.blk q).1
      omega
end

end Go.Proofs.Ytkfoddblgdmabaa.tr

/- Layer 10: Put. -/
import Derived.Test.YtkfoddblgdmabaaTrTree
namespace Go.Proofs.Ytkfoddblgdmabaa.tr
open Go.RowKit

/-- What Put tells, and the keys behind it. -/
def putT (key : ByteArray) (z : Int) (L : List Ent) : Bool × Int × List Ent :=
  if 4096 < key.size then (false, 2, L) else if hasL key L then (false, 0, putL key z L) else if 4096 ≤ L.length then (false, 3, L) else (true, 0, putL key z L)

theorem Fd.put {M : Mp} {f R H h b i : Nat} {T : List Ent} {e : Ent} {up : List (Nat × Nat)} (d : Fd M f R H T e up h b i) (hs : Srt T) (z : Int) : ∃ n, M b = some n ∧ n.es[i]? = some e ∧ ∀ n', n'.es = n.es.set i ⟨e.key, z⟩ → n'.ks = n.ks → ∃ F, Gd (M.put b n') f R H (putL e.key z T) F := by
  obtain ⟨pre, L, post, Fo, F, n, s, hT, hn, hi, hf⟩ := d.ex
  refine ⟨n, hn, hi, fun n' h1 h2 => ?_⟩
  obtain ⟨L1, L2, hL, s', hf'⟩ := s.set hn hi h1 h2
  have hT2 : T = (pre ++ L1) ++ e :: (L2 ++ post) := by rw [hT, hL]; simp
  have hp : putL e.key z T = pre ++ (L1 ++ ⟨e.key, z⟩ :: L2) ++ post := by
    rw [hT2, putL_old (lo_of (by rw [← hT2]; exact hs))]
    simp
  have hs2 := hs.put e.key z
  rw [hp] at hs2 ⊢
  refine s'.good (fun q => hf' (hf q)) (fun _ _ => ⟨n', Mp.put_same _ _ _, ?_⟩) hs2
  have := (List.getElem?_eq_some_iff.1 hi).1
  rw [h1, List.length_set]
  omega

section
variable {w : World} {B tb f : Nat} {M : Mp} {L : List Ent}
set_option maxHeartbeats 3200000 in
theorem put_any (t : Te w B tb f M L) (key : ByteArray) (z : Int) (hk : key.size ≤ 281474976710656) : Calls Try.prog 12 #[.pointer (some ⟨tb, 0, none⟩), .string key, .int .i64 z] w fun e w' => e = .returned (.tuple #[.bool (putT key z L).1, .int .i64 (putT key z L).2.1]) ∧ ∃ M', Te w' B tb f M' (putT key z L).2.2 ∧ TeTo w tb M w' M' := by
  by_cases hbig : 4096 < key.size
  · have e1 : putT key z L = (false, 2, L) := by unfold putT; rw [if_pos hbig]
    have hbi : (4096 : Int) < (key.size : Int) := by omega
    rw [e1]
    go_enter Try.func12, Try.ntmps12
    go_wp2_with fail
    go_ret2
    exact ⟨rfl, M, t, TeTo.refl _ _ _⟩
  have hbi : ¬ ((4096 : Int) < (key.size : Int)) := by omega
  obtain ⟨R, H, F, h1, m, g⟩ := t.ex
  have hwk := walk_any m (cell_obj (j := 1) h1).1 g t.fan.1 (by have := t.len; omega) key
  have hsrt := g.srt
  have hhi := g.high t.fan.1
  have hlen := t.len
  have hBw : B ≤ w.heap.size := by have h1 := t.lt (k := tb) (Or.inr rfl); have := t.base; omega
  go_enter Try.func12, Try.ntmps12
  go_wp2_with fail
  go_at_call 29
  refine hwk.mono ?_
  clear hwk
  rintro e w1 ⟨v, way, there, rfl, row, hb, res⟩
  cases there with
  | true =>
    obtain ⟨up, h, b, i, e, rfl, rfl, fd⟩ := res.found hsrt
    obtain ⟨e1, e2⟩ := getL_mem hsrt fd.mem
    have ep : putT e.key z L = (false, 0, putL e.key z L) := by unfold putT; rw [if_neg hbig, e2]; rfl
    have hpl := putL_len e.key z L hsrt
    rw [e2] at hpl
    simp only [if_true] at hpl
    obtain ⟨n, hn, hi, hset⟩ := fd.put hsrt z
    clear fd res
    go_simp
    go_wp2_with (first | (go_at_call 30; refine (last_any row (q := (b, i)) (by simp)).mono ?_; rintro e' w2 ⟨rfl, hb2⟩) | (go_at_call 31; refine (entry_any ((m.below hb).below hb2) hn hi).mono ?_; rintro e' w3 ⟨⟨rb, rc, er, rfl⟩, hb3⟩; obtain ⟨rb', rc', er', _, _, _, q1, q2, q3, q4⟩ := (((m.below hb).below hb2).below hb3).ent hn hi; rw [er] at er'; injection er' with er' _ _; injection er' with er'; injection er' with er' _ _; subst er'))
    go_ret2
    rw [ep]
    have hm3 := ((m.below hb).below hb2).below hb3
    have hb13 := (hb.trans (hb2.mono hb.size)).trans (hb3.mono (Nat.le_trans hb.size hb2.size))
    obtain ⟨ms, ts⟩ := hm3.store1 (z := z) hn hi er
    obtain ⟨Fx, hg⟩ := hset ⟨n.ev, n.kv, n.es.set i ⟨e.key, z⟩, n.ks⟩ rfl rfl
    have hne : tb ≠ rb := fun q => hm3.not_tree (f := f) (R := R) (s := L.length) (k := tb) ⟨b, n, hn, Or.inr (Or.inl (by rw [er, q]; rfl))⟩ ((hb13.block tb (t.lt (Or.inr rfl)).2).trans h1)
    refine ⟨rfl, _, ⟨⟨R, H, Fx, ?_, ms, hg⟩, t.base, t.fan, (show (putL e.key z L).length ≤ 4096 by omega)⟩, ⟨(Fr.of_below hb13).trans ts.fr (fun _ _ q => Or.inl q), fun k hk => (ts.ft k hk).imp id (fun q => Nat.le_trans hb13.size q)⟩⟩
    rw [set_other hne, show (putL e.key z L).length = L.length by omega]
    exact (hb13.block tb (t.lt (Or.inr rfl)).2).trans h1
  | false =>
    obtain ⟨e1, e2⟩ := res.none hsrt
    have hpl := putL_len key z L hsrt
    rw [e1] at hpl
    by_cases hmany : 4096 ≤ L.length
    · have ep : putT key z L = (false, 3, L) := by unfold putT; rw [if_neg hbig, e1, if_pos hmany]; rfl
      have hl4 : L.length = 4096 := by omega
      have c2 := (cell_obj (j := 2) ((hb.block tb (t.lt (Or.inr rfl)).2).trans h1)).1
      rw [hl4] at c2
      clear h1
      go_simp
      go_wp2_with fail
      go_ret2
      rw [ep]
      exact ⟨rfl, M, t.below hb, TeTo.of_below hb⟩
    · have ep : putT key z L = (true, 0, putL key z L) := by unfold putT; rw [if_neg hbig, e1, if_neg hmany]; rfl
      have h1b := (hb.block tb (t.lt (Or.inr rfl)).2).trans h1
      have c2 := (cell_obj (j := 2) h1b).1
      have hll : ¬ ((4096 : Int) ≤ (L.length : Int)) := by omega
      have hlp : (0 : Int) ≤ (L.length : Int) := by omega
      simp only [Bool.false_eq_true, if_false] at hpl
      obtain ⟨up, q, rfl, _⟩ := res.rdy hsrt ⟨key, z⟩ rfl (.pointer none)
      have hrdy : ∀ rv, Rdy M f R H (q :: up) ⟨key, z⟩ rv (putL key z L) := fun rv => by
        obtain ⟨up', q', hw, hr⟩ := res.rdy hsrt ⟨key, z⟩ rfl rv
        have := congrArg List.reverse hw
        simp only [List.reverse_append, List.reverse_reverse, List.reverse_cons, List.reverse_nil, List.nil_append, List.singleton_append, List.cons.injEq] at this
        obtain ⟨rfl, rfl⟩ := this
        exact hr
      have hupl : up.length ≤ 20000 := by
        obtain ⟨up0, h0, b0, pre, L0, post, Fo, F0, n, hw, s, _⟩ := res.ex
        have h2 := congrArg List.length hw
        simp only [List.length_append, List.length_reverse, List.length_singleton] at h2
        have h3 := s.up.height
        omega
      have hvv : ∀ k, v.ownBlock = some k → ¬ Ft M k ∧ k ≠ tb := fun k q => by
        have h2 := (row.blk q).1
        exact ⟨fun q2 => by have := (t.lt (Or.inl q2)).2; omega, fun q2 => by have := (t.lt (k := tb) (Or.inr rfl)).2; omega⟩
      clear h1
      go_simp
      go_wp2_with (first | (go_at_call 33; refine (clone_any key w1 hk).mono ?_; rintro e' w2 ⟨rfl, hb2⟩) | (go_at_call 32; refine (insert_any (s := L.length) ((m.below hb).below hb2) (Nat.le_trans hBw (Nat.le_trans hb.size hb2.size)) ((hb2.block tb (Nat.lt_of_lt_of_le (t.lt (Or.inr rfl)).2 hb.size)).trans h1b) ((row.below' hb2).mono (Nat.zero_le _)) hvv hupl t.fan.1 t.fan.2 (by omega) (by omega) hrdy (hsrt.put key z)).mono ?_; rintro e' w3 ⟨rfl, M', R', H', F', m', h1', g', fr', ft'⟩))
      go_ret2
      rw [ep]
      have hb12 := hb.trans (hb2.mono hb.size)
      refine ⟨rfl, M', ⟨⟨R', H', F', by rw [hpl]; exact h1', m', g'⟩, t.base, t.fan, (show (putL key z L).length ≤ 4096 by omega)⟩, ⟨(Fr.of_below hb12).trans fr' (fun k _ q => q), fun k hk => (ft' k hk).imp id (fun q => Nat.le_trans hb12.size q)⟩⟩
end

end Go.Proofs.Ytkfoddblgdmabaa.tr

/- Layer 10: an entry of a node overwritten. -/
import Derived.Test.YtkfoddblgdmabaaTrUpd
namespace Go.Proofs.Ytkfoddblgdmabaa.tr
open Go.RowKit

section
variable {w w' : World} {B : Nat} {M : Mp} {b : Nat} {n : Nr}
/-- A node whose row of entries was turned where it lies. -/
theorem Mm.turned {es2 : List Ent} (m : Mm w B M) (hn : M b = some n) (f : Fr (fun k => n.ev.ownBlock = some k) w w') (row : RowE w' B n.ev es2) : Mm w' B (M.put b ⟨n.ev, n.kv, es2, n.ks⟩) ∧ To w M w' (M.put b ⟨n.ev, n.kv, es2, n.ks⟩) := by
  have hk2 : RowK w' B n.kv n.ks := f.row (m.kids _ _ hn) (fun k e1 e2 => (m.evK hn hn e2).1 e1)
  have t := m.top2 hn f
  exact m.upd hn (n' := ⟨n.ev, n.kv, es2, n.ks⟩) (f.weak (fun k _ e => Or.inr (Or.inl e))) t row hk2 (fun k e => Or.inl e) (fun k e => Or.inl e)

theorem row_store {v : Value} {l : List Ent} {i : Nat} {x y : Ent} (h : RowE w B v l) (hx : l[i]? = some x) {rb c : Nat} (e : v = .slice (some ⟨rb, 0, none⟩) l.length c) : RowE ((w.setCell ⟨rb, i * 2, none⟩ (.string y.key)).setCell ⟨rb, i * 2 + 1, none⟩ (.int .i64 y.n)) B v (l.set i y) := by
  have hi : i < l.length := (List.getElem?_eq_some_iff.1 hx).1
  obtain ⟨b', c', cur, e', hg, hB, hlc, hcm, hs, ht⟩ := h.obj (h.ne (by omega))
  rw [e'] at e
  injection e with q1 _ q3
  injection q1 with q1
  injection q1 with q1 _ _
  subst q1 q3 e'
  obtain ⟨c1, c2⟩ := cut_in i l x hx
  have hl2 : (l.set i y).length = l.length := by simp
  have hset : l.set i y = l.take i ++ y :: l.drop (i + 1) := by rw [List.set_eq_take_append_cons_drop, if_pos hi]
  have hA : ((l.take i).flatMap gE).length = i * 2 := by rw [flat_len gE_len, c2]
  have hcur : cur.toList = (l.take i).flatMap gE ++ (gE x ++ (l.drop (i + 1)).flatMap gE ++ cur.toList.drop (l.length * 2)) := by
    have h0 := (List.take_append_drop (l.length * 2) cur.toList).symm
    have hfl : l.flatMap gE = (l.take i).flatMap gE ++ (gE x ++ (l.drop (i + 1)).flatMap gE) := by
      have := congrArg (fun l => List.flatMap gE l) c1
      simpa using this
    rw [ht, hfl] at h0
    refine h0.trans ?_
    simp
  have key : (wrL cur.toList (i * 2) (gE y)).take ((l.set i y).length * 2) = (l.set i y).flatMap gE := by
    rw [hcur, ← hA, wrL_eq _ _ _ (by simp [gE_len])]
    have hd : (gE x ++ (l.drop (i + 1)).flatMap gE ++ cur.toList.drop (l.length * 2)).drop (gE y).length = (l.drop (i + 1)).flatMap gE ++ cur.toList.drop (l.length * 2) := by
      rw [gE_len y, ← gE_len x, List.append_assoc, List.drop_left]
    rw [hd, show (l.take i).flatMap gE ++ gE y ++ ((l.drop (i + 1)).flatMap gE ++ cur.toList.drop (l.length * 2)) = (l.set i y).flatMap gE ++ cur.toList.drop (l.length * 2) by rw [hset]; simp]
    rw [← flat_len gE_len (l.set i y), List.take_left]
  have := GRow.written (l := l.set i y) (B := B) (o := i * 2) gE_len (gE y) hg hB (by rw [hl2]; exact hlc) hcm hs key
  rw [hl2] at this
  exact this

theorem row_store1 {v : Value} {l : List Ent} {i : Nat} {x : Ent} {z : Int} (h : RowE w B v l) (hx : l[i]? = some x) {rb c : Nat} (e : v = .slice (some ⟨rb, 0, none⟩) l.length c) : RowE (w.setCell ⟨rb, i * 2 + 1, none⟩ (.int .i64 z)) B v (l.set i ⟨x.key, z⟩) := by
  have hi : i < l.length := (List.getElem?_eq_some_iff.1 hx).1
  obtain ⟨b', c', cur, e', hg, hB, hlc, hcm, hs, ht⟩ := h.obj (h.ne (by omega))
  rw [e'] at e
  injection e with q1 _ q3
  injection q1 with q1
  injection q1 with q1 _ _
  subst q1 q3 e'
  obtain ⟨c1, c2⟩ := cut_in i l x hx
  have hl2 : (l.set i ⟨x.key, z⟩).length = l.length := by simp
  have hset : l.set i ⟨x.key, z⟩ = l.take i ++ ⟨x.key, z⟩ :: l.drop (i + 1) := by rw [List.set_eq_take_append_cons_drop, if_pos hi]
  have hA : ((l.take i).flatMap gE ++ [Value.string x.key]).length = i * 2 + 1 := by rw [List.length_append, flat_len gE_len, c2]; rfl
  have hcur : cur.toList = ((l.take i).flatMap gE ++ [Value.string x.key]) ++ (Value.int .i64 x.n :: ((l.drop (i + 1)).flatMap gE ++ cur.toList.drop (l.length * 2))) := by
    have h0 := (List.take_append_drop (l.length * 2) cur.toList).symm
    have hfl : l.flatMap gE = (l.take i).flatMap gE ++ (gE x ++ (l.drop (i + 1)).flatMap gE) := by
      have := congrArg (fun l => List.flatMap gE l) c1
      simpa using this
    rw [ht, hfl] at h0
    refine h0.trans ?_
    simp [gE]
  have key : (wrL cur.toList (i * 2 + 1) [Value.int .i64 z]).take ((l.set i ⟨x.key, z⟩).length * 2) = (l.set i ⟨x.key, z⟩).flatMap gE := by
    rw [hcur, ← hA, wrL_eq _ _ _ (by simp)]
    rw [show ((l.take i).flatMap gE ++ [Value.string x.key]) ++ [Value.int .i64 z] ++ (Value.int .i64 x.n :: ((l.drop (i + 1)).flatMap gE ++ cur.toList.drop (l.length * 2))).drop [Value.int .i64 z].length = (l.set i ⟨x.key, z⟩).flatMap gE ++ cur.toList.drop (l.length * 2) by rw [hset]; simp [gE]]
    rw [← flat_len gE_len (l.set i ⟨x.key, z⟩), List.take_left]
  have := GRow.written (l := l.set i ⟨x.key, z⟩) (B := B) (o := i * 2 + 1) gE_len [Value.int .i64 z] hg hB (by rw [hl2]; exact hlc) hcm hs key
  rw [hl2] at this
  exact this

/-- An entry put in another's place. -/
theorem Mm.store {i : Nat} {x y : Ent} (m : Mm w B M) (hn : M b = some n) (hx : n.es[i]? = some x) {rb c : Nat} (e : n.ev = .slice (some ⟨rb, 0, none⟩) n.es.length c) : Mm ((w.setCell ⟨rb, i * 2, none⟩ (.string y.key)).setCell ⟨rb, i * 2 + 1, none⟩ (.int .i64 y.n)) B (M.put b ⟨n.ev, n.kv, n.es.set i y, n.ks⟩) ∧ To w M ((w.setCell ⟨rb, i * 2, none⟩ (.string y.key)).setCell ⟨rb, i * 2 + 1, none⟩ (.int .i64 y.n)) (M.put b ⟨n.ev, n.kv, n.es.set i y, n.ks⟩) :=
  m.turned hn (Fr.set (F := fun k => n.ev.ownBlock = some k) (p := ⟨rb, i * 2 + 1, none⟩) (Fr.set (p := ⟨rb, i * 2, none⟩) (Fr.refl _ _) (Or.inl (by rw [e]; rfl)) _) (Or.inl (by rw [e]; rfl)) _) (row_store (m.ents _ _ hn) hx e)
/-- ... its number alone. -/
theorem Mm.store1 {i : Nat} {x : Ent} {z : Int} (m : Mm w B M) (hn : M b = some n) (hx : n.es[i]? = some x) {rb c : Nat} (e : n.ev = .slice (some ⟨rb, 0, none⟩) n.es.length c) : Mm (w.setCell ⟨rb, i * 2 + 1, none⟩ (.int .i64 z)) B (M.put b ⟨n.ev, n.kv, n.es.set i ⟨x.key, z⟩, n.ks⟩) ∧ To w M (w.setCell ⟨rb, i * 2 + 1, none⟩ (.int .i64 z)) (M.put b ⟨n.ev, n.kv, n.es.set i ⟨x.key, z⟩, n.ks⟩) :=
  m.turned hn (Fr.set (F := fun k => n.ev.ownBlock = some k) (p := ⟨rb, i * 2 + 1, none⟩) (Fr.refl _ _) (Or.inl (by rw [e]; rfl)) _) (row_store1 (m.ents _ _ hn) hx e)
end

end Go.Proofs.Ytkfoddblgdmabaa.tr

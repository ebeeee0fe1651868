/- Layer 10: a node's entries, or its kids, that a call has made anew, and stored. -/
import Derived.Test.YtkfoddblgdmabaaTrNode
import Derived.Test.YtkfoddblgdmabaaTrClone
namespace Go.Proofs.Ytkfoddblgdmabaa.tr
open Go.RowKit

section
variable {w w2 : World} {B : Nat} {M : Mp} {b : Nat} {n : Nr} {v2 : Value}

theorem row_ne {α : Type} {T : TypeId} {sz : Nat} {g : α → List Value} {w : World} {B : Nat} {v ev kv : Value} {l : List α} (h : GRow T sz g w B v l) (hT : T ≠ 68) {b : Nat} (t : w.heap[b]? = some (nobj ev kv)) {k : Nat} (hk : v.ownBlock = some k) : k ≠ b := by
  rintro rfl
  obtain ⟨cu, q⟩ := row_obj h hk
  rw [t] at q
  simp [nobj] at q
  exact hT q.2.symm
theorem Mm.top2 (m : Mm w B M) (hn : M b = some n) (f : Fr (fun k => n.ev.ownBlock = some k) w w2) : w2.heap[b]? = some (nobj n.ev n.kv) := (f.block b (m.lt ⟨b, n, hn, Or.inl rfl⟩).2 (fun e => (m.evK hn hn e).2 rfl)).trans (m.top b n hn).1
theorem Mm.top3 (m : Mm w B M) (hn : M b = some n) (f : Fr (fun k => n.kv.ownBlock = some k) w w2) : w2.heap[b]? = some (nobj n.ev n.kv) := (f.block b (m.lt ⟨b, n, hn, Or.inl rfl⟩).2 (fun e => m.kvB hn hn e rfl)).trans (m.top b n hn).1
theorem Mm.ents' {es2 : List Ent} (m : Mm w B M) (hn : M b = some n) (f : Fr (fun k => n.ev.ownBlock = some k) w w2) (row : RowE w2 B v2 es2) (new : ∀ k, v2.ownBlock = some k → n.ev.ownBlock = some k ∨ w.heap.size ≤ k) : Mm (w2.setCell ⟨b, 0, none⟩ v2) B (M.put b ⟨v2, n.kv, es2, n.ks⟩) ∧ To w M (w2.setCell ⟨b, 0, none⟩ v2) (M.put b ⟨v2, n.kv, es2, n.ks⟩) := by
  have t := m.top2 hn f
  have hk2 : RowK w2 B n.kv n.ks := f.row (m.kids _ _ hn) (fun k e1 e2 => (m.evK hn hn e2).1 e1)
  exact m.upd hn (n' := ⟨v2, n.kv, es2, n.ks⟩) (Fr.set (F := Fn b n) (p := ⟨b, 0, none⟩) (f.weak (fun k _ e => Or.inr (Or.inl e))) (Or.inl (Or.inl rfl)) _) (nset0 t) (row.kept (fun k e => set_other (row_ne row (by decide) t e))) (hk2.kept (fun k e => set_other (m.kvB hn hn e))) new (fun k e => Or.inl e)
theorem Mm.kids' {ks2 : List Nat} (m : Mm w B M) (hn : M b = some n) (f : Fr (fun k => n.kv.ownBlock = some k) w w2) (row : RowK w2 B v2 ks2) (new : ∀ k, v2.ownBlock = some k → n.kv.ownBlock = some k ∨ w.heap.size ≤ k) : Mm (w2.setCell ⟨b, 1, none⟩ v2) B (M.put b ⟨n.ev, v2, n.es, ks2⟩) ∧ To w M (w2.setCell ⟨b, 1, none⟩ v2) (M.put b ⟨n.ev, v2, n.es, ks2⟩) := by
  have t := m.top3 hn f
  have he2 : RowE w2 B n.ev n.es := f.row (m.ents _ _ hn) (fun k e1 e2 => (m.evK hn hn e1).1 e2)
  exact m.upd hn (n' := ⟨n.ev, v2, n.es, ks2⟩) (Fr.set (F := Fn b n) (p := ⟨b, 1, none⟩) (f.weak (fun k _ e => Or.inr (Or.inr e))) (Or.inl (Or.inl rfl)) _) (nset1 t) (he2.kept (fun k e => set_other (m.evK hn hn e).2)) (row.kept (fun k e => set_other (row_ne row (by decide) t e))) (fun k e => Or.inl e) new

/-- A cell that is no node's. -/
theorem Mm.out {x o : Nat} {v : Value} (m : Mm w B M) (h : ¬ Ft M x) : Mm (w.setCell ⟨x, o, none⟩ v) B M := m.kept (fun _ hk => set_other (fun q => h (q ▸ hk)))
theorem To.new {w w' : World} {M M' : Mp} {x o : Nat} {v : Value} (t : To w M w' M') (h : w.heap.size ≤ x) : To w M (w'.setCell ⟨x, o, none⟩ v) M' := ⟨t.fr.set (p := ⟨x, o, none⟩) (Or.inr h) _, t.ft⟩
/-- An entry's cells; a kid's. -/
theorem Mm.ent (m : Mm w B M) (hn : M b = some n) {i : Nat} {x : Ent} (hx : n.es[i]? = some x) : ∃ rb c, n.ev = .slice (some ⟨rb, 0, none⟩) n.es.length c ∧ n.es.length ≤ c ∧ c ≤ maxLen ∧ rb < w.heap.size ∧ w.cell? ⟨rb, i * 2, none⟩ = some (.string x.key) ∧ w.cell? ⟨rb, i * 2 + 1, none⟩ = some (.int .i64 x.n) ∧ w.frozen? ⟨rb, i * 2, none⟩ = false ∧ w.frozen? ⟨rb, i * 2 + 1, none⟩ = false := by
  obtain ⟨rb, c, e, h1, _, h2, h3⟩ := (m.ents b n hn).cell gE_len hx
  obtain ⟨a, c', e', _, hc⟩ := (m.ents b n hn).len
  rw [e] at e'
  cases e'
  exact ⟨rb, c, e, h1, hc, h2, by simpa using (h3 0 _ rfl).1, (h3 1 _ rfl).1, by simpa using (h3 0 _ rfl).2, (h3 1 _ rfl).2⟩
theorem Mm.kid (m : Mm w B M) (hn : M b = some n) {i k : Nat} (hx : n.ks[i]? = some k) : ∃ rb c, n.kv = .slice (some ⟨rb, 0, none⟩) n.ks.length c ∧ n.ks.length ≤ c ∧ c ≤ maxLen ∧ rb < w.heap.size ∧ w.cell? ⟨rb, i, none⟩ = some (.pointer (some ⟨k, 0, none⟩)) := by
  obtain ⟨rb, c, e, h1, _, h2, h3⟩ := (m.kids b n hn).cell gK_len hx
  obtain ⟨a, c', e', _, hc⟩ := (m.kids b n hn).len
  rw [e] at e'
  cases e'
  exact ⟨rb, c, e, h1, hc, h2, by simpa using (h3 0 _ rfl).1⟩
end

end Go.Proofs.Ytkfoddblgdmabaa.tr

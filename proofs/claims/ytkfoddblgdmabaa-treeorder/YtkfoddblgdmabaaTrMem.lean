/- Layer 10: nodes in memory. -/
import Derived.Test.YtkfoddblgdmabaaTrIns
import Derived.Test.YtkfoddblgdmabaaTrFind
namespace Go.Proofs.Ytkfoddblgdmabaa.tr
open Go.RowKit

/-- A node's block. -/
def nobj (ev kv : Value) : Obj := .cells #[ev, kv] 68 (0, 0)
abbrev RowE (w : World) (B : Nat) (v : Value) (l : List Ent) : Prop := GRow 58 2 gE w B v l
abbrev RowK (w : World) (B : Nat) (v : Value) (l : List Nat) : Prop := GRow 65 1 gK w B v l

/-- Nodes in memory, in blocks from B on. -/
structure Mm (w : World) (B : Nat) (M : Mp) : Prop where
  top : ∀ b n, M b = some n → w.heap[b]? = some (nobj n.ev n.kv) ∧ B ≤ b
  ents : ∀ b n, M b = some n → RowE w B n.ev n.es
  kids : ∀ b n, M b = some n → RowK w B n.kv n.ks
  apE : ∀ b b' n n' k, M b = some n → M b' = some n' → n.ev.ownBlock = some k → n'.ev.ownBlock = some k → b = b'
  apK : ∀ b b' n n' k, M b = some n → M b' = some n' → n.kv.ownBlock = some k → n'.kv.ownBlock = some k → b = b'

/-- The blocks of a node; of all nodes. -/
def Fn (b : Nat) (n : Nr) (k : Nat) : Prop := k = b ∨ n.ev.ownBlock = some k ∨ n.kv.ownBlock = some k
def Ft (M : Mp) (k : Nat) : Prop := ∃ b n, M b = some n ∧ Fn b n k
/-- What a call may change. -/
structure To (w : World) (M : Mp) (w' : World) (M' : Mp) : Prop where
  fr : Fr (Ft M) w w'
  ft : ∀ k, Ft M' k → Ft M k ∨ w.heap.size ≤ k

section
variable {w w' w'' : World} {B : Nat} {M M' M'' : Mp} {b b' : Nat} {n n' : Nr}
theorem To.refl (w : World) (M : Mp) : To w M w M := ⟨Fr.refl _ _, fun _ h => Or.inl h⟩
theorem To.trans (h : To w M w' M') (g : To w' M' w'' M'') : To w M w'' M'' :=
  ⟨h.fr.trans g.fr (fun i hi hf => (h.ft i hf).elim id (fun q => by omega)), fun k hk => (g.ft k hk).elim (h.ft k) (fun q => Or.inr (Nat.le_trans h.fr.size q))⟩
theorem To.of_below (hb : Below w.heap.size w w') : To w M w' M := ⟨Fr.of_below hb, fun _ h => Or.inl h⟩

theorem row_lt {α : Type} {T : TypeId} {sz : Nat} {g : α → List Value} {v : Value} {l : List α} (h : GRow T sz g w B v l) {k : Nat} (hk : v.ownBlock = some k) : B ≤ k ∧ k < w.heap.size := h.blk hk
theorem row_obj {α : Type} {T : TypeId} {sz : Nat} {g : α → List Value} {v : Value} {l : List α} (h : GRow T sz g w B v l) {k : Nat} (hk : v.ownBlock = some k) : ∃ cur, w.heap[k]? = some (.cells cur T (0, 0)) := by
  rcases h.own.2 with ⟨rfl, _⟩ | ⟨g, cap, cur, rfl, _, hg, _⟩
  · simp [Value.ownBlock] at hk
  · simp [Value.ownBlock] at hk; subst hk; exact ⟨cur, hg⟩
theorem Mm.lt (m : Mm w B M) {k : Nat} (h : Ft M k) : B ≤ k ∧ k < w.heap.size := by
  obtain ⟨b, n, hn, rfl | e | e⟩ := h
  · exact ⟨(m.top _ _ hn).2, (Array.getElem?_eq_some_iff.1 (m.top _ _ hn).1).1⟩
  · exact (m.ents _ _ hn).blk e
  · exact (m.kids _ _ hn).blk e
theorem Mm.evK (m : Mm w B M) (h1 : M b = some n) (h2 : M b' = some n') {k : Nat} (e1 : n.ev.ownBlock = some k) : n'.kv.ownBlock ≠ some k ∧ k ≠ b' := by
  obtain ⟨c1, q1⟩ := row_obj (m.ents _ _ h1) e1
  refine ⟨fun e2 => ?_, ?_⟩
  · obtain ⟨c2, q2⟩ := row_obj (m.kids _ _ h2) e2
    rw [q1] at q2
    simp at q2
  · rintro rfl
    have := (m.top _ _ h2).1
    rw [q1] at this
    simp [nobj] at this
theorem Mm.kvB (m : Mm w B M) (h1 : M b = some n) (h2 : M b' = some n') {k : Nat} (e1 : n.kv.ownBlock = some k) : k ≠ b' := by
  obtain ⟨c1, q1⟩ := row_obj (m.kids _ _ h1) e1
  rintro rfl
  have := (m.top _ _ h2).1
  rw [q1] at this
  simp [nobj] at this
theorem Mm.kept (m : Mm w B M) (h : ∀ k, Ft M k → w'.heap[k]? = w.heap[k]?) : Mm w' B M :=
  ⟨fun b n hn => ⟨(h b ⟨b, n, hn, Or.inl rfl⟩).trans (m.top b n hn).1, (m.top b n hn).2⟩, fun b n hn => (m.ents b n hn).kept (fun k e => h k ⟨b, n, hn, Or.inr (Or.inl e)⟩), fun b n hn => (m.kids b n hn).kept (fun k e => h k ⟨b, n, hn, Or.inr (Or.inr e)⟩), m.apE, m.apK⟩
theorem Mm.below (m : Mm w B M) (hb : Below w.heap.size w w') : Mm w' B M := m.kept (fun k hk => hb.block k (m.lt hk).2)
/-- One node's blocks are not another's. -/
theorem Mm.apart (m : Mm w B M) (h1 : M b = some n) (h2 : M b' = some n') (hne : b' ≠ b) {k : Nat} (hk : Fn b' n' k) : ¬ Fn b n k := by
  intro g
  rcases hk with rfl | e | e <;> rcases g with g | g | g
  · exact hne g
  · exact (m.evK h1 h2 g).2 rfl
  · exact m.kvB h1 h2 g rfl
  · exact (m.evK h2 h1 e).2 g
  · exact hne (m.apE _ _ _ _ _ h2 h1 e g)
  · exact (m.evK h2 h1 e).1 g
  · exact m.kvB h2 h1 e g
  · exact (m.evK h1 h2 g).1 e
  · exact hne (m.apK _ _ _ _ _ h2 h1 e g)
/-- One node is another one. -/
theorem Mm.upd (m : Mm w B M) (hn : M b = some n) (f : Fr (Fn b n) w w') (top : w'.heap[b]? = some (nobj n'.ev n'.kv)) (re : RowE w' B n'.ev n'.es) (rk : RowK w' B n'.kv n'.ks)
    (he : ∀ k, n'.ev.ownBlock = some k → n.ev.ownBlock = some k ∨ w.heap.size ≤ k) (hk : ∀ k, n'.kv.ownBlock = some k → n.kv.ownBlock = some k ∨ w.heap.size ≤ k) : Mm w' B (M.put b n') ∧ To w M w' (M.put b n') := by
  have other : ∀ x nx, x ≠ b → M x = some nx → ∀ k, Fn x nx k → w'.heap[k]? = w.heap[k]? := fun x nx hx hnx k hk => f.block k (m.lt ⟨x, nx, hnx, hk⟩).2 (m.apart hn hnx hx hk)
  have cs : ∀ x nx, (M.put b n') x = some nx → (x = b ∧ nx = n') ∨ (x ≠ b ∧ M x = some nx) := fun x nx h => by
    by_cases q : x = b
    · subst q; rw [Mp.put_same] at h; cases h; exact Or.inl ⟨rfl, rfl⟩
    · rw [Mp.put_other _ _ q] at h; exact Or.inr ⟨q, h⟩
  refine ⟨⟨fun x nx h => ?_, fun x nx h => ?_, fun x nx h => ?_, fun x y nx ny k h1 h2 e1 e2 => ?_, fun x y nx ny k h1 h2 e1 e2 => ?_⟩, f.weak (fun k _ hk => ⟨b, n, hn, hk⟩), fun k => ?_⟩
  · rcases cs x nx h with ⟨rfl, rfl⟩ | ⟨q, h⟩
    · exact ⟨top, (m.top _ _ hn).2⟩
    · exact ⟨(other x nx q h x (Or.inl rfl)).trans (m.top x nx h).1, (m.top x nx h).2⟩
  · rcases cs x nx h with ⟨rfl, rfl⟩ | ⟨q, h⟩
    · exact re
    · exact (m.ents x nx h).kept (fun k e => other x nx q h k (Or.inr (Or.inl e)))
  · rcases cs x nx h with ⟨rfl, rfl⟩ | ⟨q, h⟩
    · exact rk
    · exact (m.kids x nx h).kept (fun k e => other x nx q h k (Or.inr (Or.inr e)))
  · rcases cs x nx h1 with ⟨rfl, rfl⟩ | ⟨q1, u1⟩ <;> rcases cs y ny h2 with ⟨rfl, rfl⟩ | ⟨q2, u2⟩
    · rfl
    · exact (he k e1).elim (fun g => m.apE _ _ _ _ k hn u2 g e2) (fun g => by have := (m.lt ⟨y, ny, u2, Or.inr (Or.inl e2)⟩).2; omega)
    · exact (he k e2).elim (fun g => m.apE _ _ _ _ k u1 hn e1 g) (fun g => by have := (m.lt ⟨x, nx, u1, Or.inr (Or.inl e1)⟩).2; omega)
    · exact m.apE _ _ _ _ k u1 u2 e1 e2
  · rcases cs x nx h1 with ⟨rfl, rfl⟩ | ⟨q1, u1⟩ <;> rcases cs y ny h2 with ⟨rfl, rfl⟩ | ⟨q2, u2⟩
    · rfl
    · exact (hk k e1).elim (fun g => m.apK _ _ _ _ k hn u2 g e2) (fun g => by have := (m.lt ⟨y, ny, u2, Or.inr (Or.inr e2)⟩).2; omega)
    · exact (hk k e2).elim (fun g => m.apK _ _ _ _ k u1 hn e1 g) (fun g => by have := (m.lt ⟨x, nx, u1, Or.inr (Or.inr e1)⟩).2; omega)
    · exact m.apK _ _ _ _ k u1 u2 e1 e2
  · rintro ⟨x, nx, h, hk'⟩
    rcases cs x nx h with ⟨rfl, rfl⟩ | ⟨q, h⟩
    · rcases hk' with g | g | g
      · exact Or.inl ⟨x, n, hn, Or.inl g⟩
      · exact (he k g).imp_left (fun g => ⟨x, n, hn, Or.inr (Or.inl g)⟩)
      · exact (hk k g).imp_left (fun g => ⟨x, n, hn, Or.inr (Or.inr g)⟩)
    · exact Or.inl ⟨x, nx, h, hk'⟩
/-- A new node. -/
theorem Mm.new (m : Mm w B M) (f : Below w.heap.size w w') (hb : w.heap.size ≤ b) (hB : B ≤ w.heap.size) (top : w'.heap[b]? = some (nobj n'.ev n'.kv)) (re : RowE w' w.heap.size n'.ev n'.es) (rk : RowK w' w.heap.size n'.kv n'.ks) : Mm w' B (M.put b n') ∧ To w M w' (M.put b n') ∧ M b = none := by
  have hM : M b = none := by
    cases h : M b with
    | none => rfl
    | some x => have := (m.lt ⟨b, x, h, Or.inl rfl⟩).2; omega
  have cs : ∀ x nx, (M.put b n') x = some nx → (x = b ∧ nx = n') ∨ (x ≠ b ∧ M x = some nx) := fun x nx h => by
    by_cases q : x = b
    · subst q; rw [Mp.put_same] at h; cases h; exact Or.inl ⟨rfl, rfl⟩
    · rw [Mp.put_other _ _ q] at h; exact Or.inr ⟨q, h⟩
  have m' := m.below f
  have new : ∀ k, Fn b n' k → w.heap.size ≤ k := fun k hk => by
    rcases hk with rfl | e | e
    · exact hb
    · exact (re.blk e).1
    · exact (rk.blk e).1
  refine ⟨⟨fun x nx h => ?_, fun x nx h => ?_, fun x nx h => ?_, fun x y nx ny k h1 h2 e1 e2 => ?_, fun x y nx ny k h1 h2 e1 e2 => ?_⟩, ⟨Fr.of_below f, fun k => ?_⟩, hM⟩
  · rcases cs x nx h with ⟨rfl, rfl⟩ | ⟨q, h⟩
    · exact ⟨top, Nat.le_trans hB hb⟩
    · exact m'.top x nx h
  · rcases cs x nx h with ⟨rfl, rfl⟩ | ⟨q, h⟩
    · exact re.mono hB
    · exact m'.ents x nx h
  · rcases cs x nx h with ⟨rfl, rfl⟩ | ⟨q, h⟩
    · exact rk.mono hB
    · exact m'.kids x nx h
  · rcases cs x nx h1 with ⟨rfl, rfl⟩ | ⟨q1, u1⟩ <;> rcases cs y ny h2 with ⟨rfl, rfl⟩ | ⟨q2, u2⟩
    · rfl
    · have g1 := new k (Or.inr (Or.inl e1)); have := (m.lt ⟨y, ny, u2, Or.inr (Or.inl e2)⟩).2; omega
    · have g1 := new k (Or.inr (Or.inl e2)); have := (m.lt ⟨x, nx, u1, Or.inr (Or.inl e1)⟩).2; omega
    · exact m.apE _ _ _ _ k u1 u2 e1 e2
  · rcases cs x nx h1 with ⟨rfl, rfl⟩ | ⟨q1, u1⟩ <;> rcases cs y ny h2 with ⟨rfl, rfl⟩ | ⟨q2, u2⟩
    · rfl
    · have g1 := new k (Or.inr (Or.inr e1)); have := (m.lt ⟨y, ny, u2, Or.inr (Or.inr e2)⟩).2; omega
    · have g1 := new k (Or.inr (Or.inr e2)); have := (m.lt ⟨x, nx, u1, Or.inr (Or.inr e1)⟩).2; omega
    · exact m.apK _ _ _ _ k u1 u2 e1 e2
  · rintro ⟨x, nx, h, hk'⟩
    rcases cs x nx h with ⟨rfl, rfl⟩ | ⟨q, h⟩
    · exact Or.inr (new k hk')
    · exact Or.inl ⟨x, nx, h, hk'⟩

/-- A node's cells. -/
theorem ncell {ev kv : Value} (h : w.heap[b]? = some (nobj ev kv)) : w.cell? ⟨b, 0, none⟩ = some ev ∧ w.cell? ⟨b, 1, none⟩ = some kv ∧ w.frozen? ⟨b, 0, none⟩ = false ∧ w.frozen? ⟨b, 1, none⟩ = false := by
  unfold nobj at h
  exact ⟨(cell_obj h).1.trans rfl, (cell_obj h).1.trans rfl, (cell_obj (j := 0) h).2, (cell_obj (j := 1) h).2⟩
theorem nset0 {ev kv v : Value} (h : w.heap[b]? = some (nobj ev kv)) : (w.setCell ⟨b, 0, none⟩ v).heap[b]? = some (nobj v kv) := by
  have := heap_setCell_same w b 0 _ _ v h
  simpa [nobj] using this
theorem nset1 {ev kv v : Value} (h : w.heap[b]? = some (nobj ev kv)) : (w.setCell ⟨b, 1, none⟩ v).heap[b]? = some (nobj ev v) := by
  have := heap_setCell_same w b 1 _ _ v h
  simpa [nobj] using this

set_option maxHeartbeats 800000 in
theorem end_yes (m : Mm w B M) (hn : M b = some n) (h0 : n.ks = []) : Calls Try.prog 39 #[.pointer (some ⟨b, 0, none⟩)] w fun e w' => e = .returned (.bool true) ∧ w' = w := by
  obtain ⟨_, c1, _, _⟩ := ncell (m.top b n hn).1
  obtain ⟨a, c, e, _, _⟩ := (m.kids b n hn).len
  rw [h0] at e
  rw [e] at c1
  clear e h0 m hn
  go_enter Try.func39, Try.ntmps39
  go_wp2_with fail
  go_ret
  exact ⟨rfl, rfl⟩
set_option maxHeartbeats 800000 in
theorem end_no (m : Mm w B M) (hn : M b = some n) (h0 : n.ks ≠ []) : Calls Try.prog 39 #[.pointer (some ⟨b, 0, none⟩)] w fun e w' => e = .returned (.bool false) ∧ w' = w := by
  obtain ⟨_, c1, _, _⟩ := ncell (m.top b n hn).1
  obtain ⟨a, c, e, _, _⟩ := (m.kids b n hn).len
  rw [e] at c1
  have hl : ((n.ks.length : Int) == 0) = false := by
    have := List.length_pos_iff.2 h0
    simp
    exact h0
  clear e h0 m hn
  generalize n.ks.length = len at *
  go_enter Try.func39, Try.ntmps39
  go_wp2_with fail
  go_ret
  exact ⟨rfl, rfl⟩
set_option maxHeartbeats 800000 in
theorem many_any (m : Mm w B M) (hn : M b = some n) (hlen : n.es.length ≤ 90000) (f : Nat) (_hf : f ≤ 1000) : Calls Try.prog 46 #[.pointer (some ⟨b, 0, none⟩), .int .i64 (f : Int)] w fun e w' => e = .returned (.bool (decide (f < n.es.length + 1))) ∧ w' = w := by
  obtain ⟨c0, _, _, _⟩ := ncell (m.top b n hn).1
  obtain ⟨a, c, e, _, _⟩ := (m.ents b n hn).len
  rw [e] at c0
  clear e m hn
  generalize n.es.length = len at *
  have hR : decide ((f : Int) < (len : Int) + 1) = decide (f < len + 1) := by rw [decide_eq_decide]; omega
  generalize decide (f < len + 1) = r at hR ⊢
  go_enter Try.func46, Try.ntmps46
  go_wp2_with fail
  all_goals
    go_ret
    exact ⟨rfl, rfl⟩
set_option maxHeartbeats 800000 in
theorem few_any (m : Mm w B M) (hn : M b = some n) (hlen : n.es.length ≤ 90000) (f : Nat) (_hf : f ≤ 1000) : Calls Try.prog 50 #[.pointer (some ⟨b, 0, none⟩), .int .i64 (f : Int)] w fun e w' => e = .returned (.bool (decide (2 * (n.es.length + 1) < f))) ∧ w' = w := by
  obtain ⟨c0, _, _, _⟩ := ncell (m.top b n hn).1
  obtain ⟨a, c, e, _, _⟩ := (m.ents b n hn).len
  rw [e] at c0
  clear e m hn
  generalize n.es.length = len at *
  have hR : decide (2 * ((len : Int) + 1) < (f : Int)) = decide (2 * (len + 1) < f) := by rw [decide_eq_decide]; omega
  generalize decide (2 * (len + 1) < f) = r at hR ⊢
  go_enter Try.func50, Try.ntmps50
  go_wp2_with fail
  all_goals
    go_ret
    exact ⟨rfl, rfl⟩
set_option maxHeartbeats 800000 in
theorem find_any (m : Mm w B M) (hn : M b = some n) (hs : Srt n.es) (hlen : n.es.length ≤ 90000) (key : ByteArray) : Calls Try.prog 44 #[.pointer (some ⟨b, 0, none⟩), .string key] w fun e w' => e = .returned (.tuple #[.int .i64 (pos key n.es : Int), .bool (hasL key n.es)]) ∧ Below w.heap.size w w' := by
  obtain ⟨c0, _, _, _⟩ := ncell (m.top b n hn).1
  have h := search_any (m.ents b n hn) hs (by omega) key
  clear hs hlen m hn
  generalize pos key n.es = p at *
  generalize hasL key n.es = r at *
  generalize n.ev = ev at *
  go_enter Try.func44, Try.ntmps44
  go_wp2_with ((try go_at_call 56); refine h.mono ?_; rintro e w1 ⟨rfl, hb1⟩)
  go_ret2
  exact ⟨rfl, hb1⟩
end

end Go.Proofs.Ytkfoddblgdmabaa.tr

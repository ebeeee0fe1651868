/- Layer 10: rows of anything in memory: some cells an element; a row that is written within. -/
import Derived.Test.YtkfoddblgdmabaaRows
import Derived.Test.YtkfoddblgdmabaaTrMend
import Derived.WalkKit
import Derived.Laws.AppendOwnNone
import Derived.Lib.Walk
import Derived.Lib.SliceRun
import Derived.Laws.IdiomCopy
import Derived.Deep.RegionHeld3
import Derived.BigQuiet
import Derived.Lib.OwnBridge
import Derived.ArgAppend
namespace Go.Proofs.Ytkfoddblgdmabaa.tr
open Go.RowKit

theorem below2 {a b c : World} (h1 : Below a.heap.size a b) (h2 : Below b.heap.size b c) : Below a.heap.size a c := h1.trans (h2.mono h1.size)
theorem below_alloc1 (W : World) (a : Obj) : Below W.heap.size W (W.alloc a) := (Below.refl _ W).alloc (Nat.le_refl _) a

/-- What is there behind a call that changes the blocks of F alone. -/
structure Fr (F : Nat → Prop) (w w' : World) : Prop where
  os : w'.os = w.os
  tape : w'.tape = w.tape
  output : w'.output = w.output
  size : w.heap.size ≤ w'.heap.size
  block : ∀ k, k < w.heap.size → ¬ F k → w'.heap[k]? = w.heap[k]?

theorem Fr.refl (F : Nat → Prop) (w : World) : Fr F w w := ⟨rfl, rfl, rfl, Nat.le_refl _, fun _ _ _ => rfl⟩
theorem Fr.of_below {F : Nat → Prop} {w w' : World} (h : Below w.heap.size w w') : Fr F w w' := ⟨h.os, h.tape, h.output, h.size, fun k hk _ => h.block k hk⟩
theorem Fr.trans {F G : Nat → Prop} {a b c : World} (h : Fr F a b) (k : Fr G b c) (hG : ∀ i, i < a.heap.size → G i → F i) : Fr F a c :=
  ⟨k.os.trans h.os, k.tape.trans h.tape, k.output.trans h.output, Nat.le_trans h.size k.size, fun i hi hF => (k.block i (Nat.lt_of_lt_of_le hi h.size) (fun g => hF (hG i hi g))).trans (h.block i hi hF)⟩
theorem Fr.weak {F G : Nat → Prop} {w w' : World} (h : Fr F w w') (hF : ∀ i, i < w.heap.size → F i → G i) : Fr G w w' := ⟨h.os, h.tape, h.output, h.size, fun k hk q => h.block k hk (fun z => q (hF k hk z))⟩
theorem Fr.below {F : Nat → Prop} {B : Nat} {W w w' : World} (h : Fr F w w') (hb : Below B W w) (hB : B ≤ w.heap.size) (hF : ∀ k, F k → B ≤ k) : Below B W w' :=
  hb.trans ⟨h.os, h.tape, h.output, h.size, fun k hk => h.block k (by omega) (fun f => by have := hF k f; omega)⟩
theorem Fr.set {F : Nat → Prop} {w w' : World} (h : Fr F w w') {p : Addr} (hp : F p.block ∨ w.heap.size ≤ p.block) (u : Value) : Fr F w (w'.setCell p u) :=
  ⟨h.os, h.tape, h.output, by have := h.size; simpa [World.setCell] using this, fun k hk hF => by
    rw [Below.heap_setCell _ _ _ _ (by rintro rfl; rcases hp with hp | hp; exact hF hp; omega)]
    exact h.block k hk hF⟩
theorem Fr.alloc {F : Nat → Prop} {w w' : World} (h : Fr F w w') (o : Obj) : Fr F w (w'.alloc o) :=
  h.trans (G := F) (.of_below (below_alloc1 _ _)) (fun _ _ g => g)
theorem Fr.drew {F : Nat → Prop} {w w' : World} (h : Fr F w w') : Fr F w w'.drew := ⟨h.os, h.tape, h.output, h.size, h.block⟩
theorem Fr.of_grown {w w' : World} {row : Option Nat} (h : w.grownBy w' row) : Fr (fun k => row = some k) w w' :=
  ⟨h.os, h.tape, h.output, h.size, fun k hk hF => h.block k hk (fun e => hF e.symm)⟩

theorem run_append_own2 {P : Program} (w : World) (base : Nat) (t ty e : TypeId) (i : TypeInfo) (z : Value) (size bytes : Nat) (ht : P.underlying t = some (.slice e)) (hi : P.info? e = some i) (hz : i.zero = some z)
    (hsize : i.size = size) (hby : i.bytes = bytes) (hzs : z.cells.size = size) (hsz : 0 < size)
    (v : Value) (n : Nat) (xs : List Value) (hown : w.ownsRow base e size v n xs)
    (a : Addr) (m c : Nat) (news : List Value) (hl : news.length = m * size) (hnews : ∀ j u, news[j]? = some u → w.cell? (a.add j) = some u) (h1 : ∀ u ∈ news, u.oneCell' = true)
    (h63 : n + m ≤ maxLen) (hbytes : (n + m) * bytes ≤ 140737488355328) (hbase : base ≤ w.heap.size) :
    ∃ v' w', (Builtin.append_ #[t, t] ty #[v, .slice (some a) m c]).run P w = .ok v' w' ∧ w'.ownsRow base e size v' (n + m) (xs ++ news) ∧ w.grownBy w' v.ownBlock ∧ (v' ≠ .slice none 0 0 ∨ n + m = 0) ∧ ∀ k, v'.ownBlock = some k → v.ownBlock = some k ∨ w.heap.size ≤ k := by
  obtain ⟨v', w', hr, h2, h3, _⟩ := run_append_own (P := P) w base t ty e i z size bytes ht hi hz hsize hby hzs hsz v n xs hown a m c news hl hnews h1 h63 hbytes hbase
  refine ⟨v', w', hr, h2, h3, ?_, fun k hk => ?_⟩
  · rcases h2.2 with ⟨_, e⟩ | ⟨g, cap, cur, e, _⟩
    · exact Or.inr e
    · exact Or.inl (by rw [e]; simp)
  have h0 := hown
  rcases hown.2 with ⟨rfl, rfl⟩ | ⟨g, cap, cur, rfl, hbg, hg, hnc, hcm, hcs, htake⟩
  · have hx : xs = [] := List.eq_nil_of_length_eq_zero (by simpa using hown.1)
    subst hx
    obtain ⟨v2, w2, hr2, h4, _⟩ := run_append_own (P := P) w w.heap.size t ty e i z size bytes ht hi hz hsize hby hzs hsz (.slice none 0 0) 0 [] (World.ownsRow_nil _ _ _ _) a m c news hl hnews h1 h63 hbytes (Nat.le_refl _)
    rw [hr] at hr2
    injection hr2 with e1 e2
    subst e1 e2
    exact Or.inr (h4.lt k hk).1
  · by_cases hroom : n + m ≤ cap
    · obtain ⟨w2, hr2, _⟩ := run_append_fits (P := P) w base t ty e i size ht hi hsize g n cap xs h0 a m c news hl hnews h1 hroom
      rw [hr] at hr2
      injection hr2 with e1 e2
      subst e1 e2
      exact Or.inl hk
    · obtain ⟨v2, w2, hr2, h4, _⟩ := run_append_arg_grows (P := P) w t ty e i z size bytes ht hi hz hsize hby hzs hsz ⟨g, 0, none⟩ n cap xs h0.1 (h0.cells (g := g) rfl) a m c news hl hnews (by omega) h63 hbytes
      rw [hr] at hr2
      injection hr2 with e1 e2
      subst e1 e2
      exact Or.inr (h4.lt k hk).1

theorem own_mono {w : World} {B B' : Nat} {T : TypeId} {sz n : Nat} {v : Value} {xs : List Value} (h : w.ownsRow B T sz v n xs) (hB : B' ≤ B) : w.ownsRow B' T sz v n xs := by
  refine ⟨h.1, ?_⟩
  rcases h.2 with e | ⟨g, cap, cur, e, h1, r⟩
  · exact Or.inl e
  · exact Or.inr ⟨g, cap, cur, e, Nat.le_trans hB h1, r⟩
theorem own_set {w : World} {B : Nat} {T : TypeId} {sz n b c : Nat} {xs : List Value} (h : w.ownsRow B T sz (.slice (some ⟨b, 0, none⟩) n c) n xs) (o : Nat) (x : Value) : (w.setCell ⟨b, o, none⟩ x).ownsRow B T sz (.slice (some ⟨b, 0, none⟩) n c) n (xs.set o x) := by
  refine ⟨by simpa using h.1, ?_⟩
  rcases h.2 with ⟨e, _⟩ | ⟨g, cap, cur, e, h1, h2, h3, h4, h5, h6⟩
  · cases e
  · cases e
    refine Or.inr ⟨b, c, _, rfl, h1, heap_setCell_same w b o cur T x h2, h3, h4, by simpa using h5, ?_⟩
    rw [Array.toList_setIfInBounds, List.take_set, h6]

section
variable {α : Type} {sz : Nat} {g : α → List Value}
theorem flat_len (hg : ∀ x, (g x).length = sz) (l : List α) : (l.flatMap g).length = l.length * sz := by
  induction l with
  | nil => simp
  | cons x l ih => rw [List.flatMap_cons, List.length_append, hg, ih, List.length_cons, Nat.succ_mul]; omega
theorem flat_get (hg : ∀ x, (g x).length = sz) (l : List α) : ∀ (i : Nat) (x : α), l[i]? = some x → ∀ j u, (g x)[j]? = some u → (l.flatMap g)[i * sz + j]? = some u := by
  induction l with
  | nil => intro i x h; simp at h
  | cons y l ih =>
    intro i x h j u hu
    rw [List.flatMap_cons]
    cases i with
    | zero =>
      simp at h
      subst h
      have : j < (g y).length := (List.getElem?_eq_some_iff.1 hu).1
      rw [Nat.zero_mul, Nat.zero_add, List.getElem?_append_left this]
      exact hu
    | succ i =>
      simp at h
      have hy := hg y
      rw [List.getElem?_append_right (by rw [hy, Nat.succ_mul]; omega), hy, show (i + 1) * sz + j - sz = i * sz + j by rw [Nat.succ_mul]; omega]
      exact ih i x h j u hu
theorem flat_take (hg : ∀ x, (g x).length = sz) (l : List α) (k : Nat) (hk : k ≤ l.length) : (l.flatMap g).take (k * sz) = (l.take k).flatMap g := by
  have e : l = l.take k ++ l.drop k := (List.take_append_drop k l).symm
  conv => lhs; rw [e, List.flatMap_append]
  have hl : ((l.take k).flatMap g).length = k * sz := by rw [flat_len hg, List.length_take, Nat.min_eq_left hk]
  rw [← hl, List.take_left]
theorem flat_drop (hg : ∀ x, (g x).length = sz) (l : List α) (k : Nat) (hk : k ≤ l.length) : (l.flatMap g).drop (k * sz) = (l.drop k).flatMap g := by
  have e : l = l.take k ++ l.drop k := (List.take_append_drop k l).symm
  conv => lhs; rw [e, List.flatMap_append]
  have hl : ((l.take k).flatMap g).length = k * sz := by rw [flat_len hg, List.length_take, Nat.min_eq_left hk]
  rw [← hl, List.drop_left]
end

/-- A row of elements in memory, in a block from B on. -/
structure GRow {α : Type} (T : TypeId) (sz : Nat) (g : α → List Value) (w : World) (B : Nat) (v : Value) (l : List α) : Prop where
  own : w.ownsRow B T sz v l.length (l.flatMap g)

section
variable {α : Type} {T : TypeId} {sz : Nat} {g : α → List Value} {w w' : World} {B : Nat} {v : Value} {l : List α}
theorem GRow.blk (h : GRow T sz g w B v l) {k : Nat} (hk : v.ownBlock = some k) : B ≤ k ∧ k < w.heap.size := h.own.lt k hk
theorem GRow.kept (h : GRow T sz g w B v l) (h1 : ∀ k, v.ownBlock = some k → w'.heap[k]? = w.heap[k]?) : GRow T sz g w' B v l := by
  refine ⟨⟨h.own.1, ?_⟩⟩
  rcases h.own.2 with e | ⟨b, cap, cur, rfl, a, q, c⟩
  · exact Or.inl e
  · exact Or.inr ⟨b, cap, cur, rfl, a, (h1 b rfl).trans q, c⟩
theorem GRow.below' (h : GRow T sz g w B v l) (hb : Below w.heap.size w w') : GRow T sz g w' B v l := h.kept (fun k e => hb.block k (h.blk e).2)
theorem GRow.mono {B' : Nat} (h : GRow T sz g w B v l) (hB : B' ≤ B) : GRow T sz g w B' v l := ⟨own_mono h.own hB⟩
theorem GRow.len (h : GRow T sz g w B v l) : ∃ a c, v = .slice a l.length c ∧ l.length ≤ c ∧ c ≤ maxLen := by
  rcases h.own.2 with ⟨rfl, e⟩ | ⟨b, cap, cur, rfl, _, _, c, d, _⟩
  · rw [e]; exact ⟨_, _, rfl, Nat.le_refl _, Nat.zero_le _⟩
  · exact ⟨_, _, rfl, c, d⟩
/-- The row's block. -/
theorem GRow.obj (h : GRow T sz g w B v l) (h0 : v ≠ .slice none 0 0) : ∃ b c cur, v = .slice (some ⟨b, 0, none⟩) l.length c ∧ w.heap[b]? = some (.cells cur T (0, 0)) ∧ B ≤ b ∧ l.length ≤ c ∧ c ≤ maxLen ∧ cur.size = c * sz ∧ cur.toList.take (l.length * sz) = l.flatMap g := by
  rcases h.own.2 with ⟨e, _⟩ | ⟨b, cap, cur, rfl, a, q, c, d, e, f⟩
  · exact absurd e h0
  · exact ⟨b, cap, cur, rfl, q, a, c, d, e, f⟩
theorem GRow.of_obj {b c : Nat} {cur : Array Value} (hg : ∀ x, (g x).length = sz) (hb : w.heap[b]? = some (.cells cur T (0, 0))) (hB : B ≤ b) (hl : l.length ≤ c) (hc : c ≤ maxLen) (hs : cur.size = c * sz) (ht : cur.toList.take (l.length * sz) = l.flatMap g) : GRow T sz g w B (.slice (some ⟨b, 0, none⟩) l.length c) l :=
  ⟨⟨flat_len hg l, Or.inr ⟨b, c, cur, rfl, hB, hb, hl, hc, hs, ht⟩⟩⟩
theorem GRow.nil_of (h : GRow T sz g w B (.slice none 0 0) l) : l = [] := by
  rcases h.own.2 with ⟨_, e⟩ | ⟨b, cap, cur, e, _⟩
  · exact List.eq_nil_of_length_eq_zero e
  · cases e
theorem GRow.ne (h : GRow T sz g w B v l) (h0 : 0 < l.length) : v ≠ .slice none 0 0 := by
  rintro rfl
  rw [h.nil_of] at h0
  simp at h0
theorem GRow.cell (h : GRow T sz g w B v l) (hg : ∀ x, (g x).length = sz) {i : Nat} {x : α} (hs : l[i]? = some x) : ∃ b c, v = .slice (some ⟨b, 0, none⟩) l.length c ∧ l.length ≤ c ∧ B ≤ b ∧ b < w.heap.size ∧ ∀ j u, (g x)[j]? = some u → w.cell? ⟨b, i * sz + j, none⟩ = some u ∧ w.frozen? ⟨b, i * sz + j, none⟩ = false := by
  have hlt : i < l.length := (List.getElem?_eq_some_iff.1 hs).1
  have h0 := h.own
  rcases h.own.2 with ⟨_, e⟩ | ⟨b, cap, cur, rfl, hb, hq, c, d, _⟩
  · omega
  · refine ⟨b, cap, rfl, c, hb, (Array.getElem?_eq_some_iff.1 hq).1, fun j u hu => ⟨?_, frozen_of_row w b _ _ _ hq⟩⟩
    have hj : j < sz := by have := (List.getElem?_eq_some_iff.1 hu).1; rw [hg] at this; exact this
    have hm : (i + 1) * sz ≤ l.length * sz := Nat.mul_le_mul_right _ hlt
    rw [h0.cellAt _ (by rw [Nat.succ_mul] at hm; omega)]
    exact flat_get hg l i x hs j u hu
theorem grow_nil (T : TypeId) (sz : Nat) (g : α → List Value) (w : World) (B : Nat) : GRow T sz g w B (.slice none 0 0) ([] : List α) := ⟨World.ownsRow_nil _ _ _ _⟩

/-- append, as a run. -/
theorem run_append_row {tS : TypeId} {bytes : Nat} {z : Value} (hg : ∀ x, (g x).length = sz) (h1 : ∀ x, ∀ u ∈ g x, u.oneCell' = true) (hu : Try.prog.underlying tS = some (.slice T)) (hI : (Try.prog.info? T).map (fun i => (i.zero, i.size, i.bytes)) = some (some z, sz, bytes)) (hzs : z.cells.size = sz) (hsz : 0 < sz)
    (hby : bytes ≤ 1000) (ty : TypeId) (m : List α) (hrow : GRow T sz g w B v l) (a : Addr) (c : Nat) (hm : ∀ j u, (m.flatMap g)[j]? = some u → w.cell? (a.add j) = some u) (hlen : l.length + m.length ≤ 100000) (hB : B ≤ w.heap.size) :
    ∃ v' w', (Builtin.append_ #[tS, tS] ty #[v, .slice (some a) m.length c]).run Try.prog w = .ok v' w' ∧ GRow T sz g w' B v' (l ++ m) ∧ Fr (fun k => v.ownBlock = some k) w w' ∧ (∀ k, v'.ownBlock = some k → v.ownBlock = some k ∨ w.heap.size ≤ k) := by
  obtain ⟨i0, hi, hz0, hz1, hz2⟩ := info_parts hI
  obtain ⟨v', w', hr, h2, h3, _, h4⟩ := run_append_own2 (P := Try.prog) w B tS ty T i0 _ sz bytes hu hi hz0 hz1 hz2 hzs hsz v l.length (l.flatMap g) hrow.own a m.length c (m.flatMap g) (flat_len hg m) hm (by intro u hu; obtain ⟨y, _, hy⟩ := List.mem_flatMap.1 hu; exact h1 y u hy) (by unfold maxLen; omega) (Nat.le_trans (Nat.mul_le_mul hlen hby) (by omega)) hB
  exact ⟨v', w', hr, ⟨by rw [List.length_append, List.flatMap_append]; exact h2⟩, Fr.of_grown h3, h4⟩
/-- append, in a list of operations. -/
theorem wpList_append_row {tS : TypeId} {bytes : Nat} {z : Value} (hg : ∀ x, (g x).length = sz) (h1 : ∀ x, ∀ u ∈ g x, u.oneCell' = true) (hu : Try.prog.underlying tS = some (.slice T)) (hI : (Try.prog.info? T).map (fun i => (i.zero, i.size, i.bytes)) = some (some z, sz, bytes)) (hzs : z.cells.size = sz) (hsz : 0 < sz) (hby : bytes ≤ 1000)
    {ops : Array Oper} {rest : List Oper} {o : Oper} {ac : Act} {Q : Exit → Act → World → Prop} (w : World) (hgd : o.guard = none) (s x : Operand)
    (ho : o.op = .call { callee := .builtin .append, args := #[s, x], argTypes := #[tS, tS] })
    (B : Nat) (v : Value) (l m : List α) (hs : ac.eval s = v) (hrow : GRow T sz g w B v l) (a : Addr) (c : Nat) (hx : ac.eval x = .slice (some a) m.length c) (hm : ∀ j u, (m.flatMap g)[j]? = some u → w.cell? (a.add j) = some u) (hlen : l.length + m.length ≤ 100000) (hB : B ≤ w.heap.size)
    (h : ∀ v' w', GRow T sz g w' B v' (l ++ m) → Fr (fun k => v.ownBlock = some k) w w' → (∀ k, v'.ownBlock = some k → v.ownBlock = some k ∨ w.heap.size ≤ k) → wpList Try.prog ops Q rest (ac.put o.dst v') w') : wpList Try.prog ops Q (o :: rest) ac w := by
  obtain ⟨v', w', hr, h2, h3, h4⟩ := run_append_row hg h1 hu hI hzs hsz hby o.type m hrow a c hm hlen hB
  refine wpList_plain hgd fun K hK => ?_
  unfold Oper.wp execOp
  simp only [ho, resolve, invoke, builtin, Sem.run_bind, Sem.run_pure, Result.andThen_ok, List.map_toArray, List.map_cons, List.map_nil, hs, hx, hr]
  exact hK _ _ (h v' w' h2 h3 h4)
end

/-! ### Cells that are written one behind the other -/

def wrL (C : List Value) : Nat → List Value → List Value
  | _, [] => C
  | o, v :: vs => wrL (C.set o v) (o + 1) vs
theorem wrL_len : ∀ (vs : List Value) (C : List Value) (o : Nat), (wrL C o vs).length = C.length
  | [], _, _ => rfl
  | v :: vs, C, o => by rw [wrL, wrL_len vs]; simp
theorem wrL_eq : ∀ (vs X Y : List Value), vs.length ≤ Y.length → wrL (X ++ Y) X.length vs = X ++ vs ++ Y.drop vs.length
  | [], X, Y, _ => by simp [wrL]
  | v :: vs, X, [], h => by simp at h
  | v :: vs, X, y :: Y, h => by
    rw [wrL, List.set_append_right _ _ (Nat.le_refl _), Nat.sub_self, List.set_cons_zero]
    have := wrL_eq vs (X ++ [v]) Y (by simpa using h)
    rw [List.length_append] at this
    simp only [List.append_assoc, List.cons_append, List.nil_append, List.length_singleton] at this
    rw [this]
    simp
theorem heap_setCells (b : Nat) (T : TypeId) : ∀ (vs : List Value) (o : Nat) (w : World) (cur : Array Value), w.heap[b]? = some (.cells cur T (0, 0)) → (w.setCells b o vs).heap[b]? = some (.cells (wrL cur.toList o vs).toArray T (0, 0))
  | [], o, w, cur, h => by simpa [World.setCells, wrL] using h
  | v :: vs, o, w, cur, h => by
    rw [World.setCells]
    have := heap_setCells b T vs (o + 1) (w.setCell ⟨b, o, none⟩ v) _ (heap_setCell_same w b o cur T v h)
    rw [this, wrL, Array.toList_setIfInBounds]
theorem Fr.setCells {F : Nat → Prop} {w : World} {b : Nat} (hb : F b ∨ w.heap.size ≤ b) : ∀ (vs : List Value) (o : Nat) {w' : World}, Fr F w w' → Fr F w (w'.setCells b o vs)
  | [], _, _, h => h
  | v :: vs, o, w', h => by
    rw [World.setCells]
    exact Fr.setCells hb vs (o + 1) (h.set (p := ⟨b, o, none⟩) hb v)

end Go.Proofs.Ytkfoddblgdmabaa.tr

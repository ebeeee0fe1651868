/- The calls of page at a page of slots, in one form; what a step makes of the slots. -/
import Derived.Test.YtkjioabhdglkpaaGreatPMath
import Derived.Test.YtkjioabhdglkpaaGreatQOne
import Derived.Laws.AppendOwnNone
import Derived.Lib.Walk
import Derived.Deep.RegionHeld3
import Derived.BigQuiet
import Derived.Test.YtkjioabhdglkpaaGreatShelf
import Derived.Test.YtkjioabhdglkpaaGreatClone

section
namespace Go.Proofs.YtkjioabhdglkpaaGreat
open Go.RowKit

theorem Fr.of_grown {w w' : World} {row : Option Nat} (h : w.grownBy w' row) : Fr (fun k => row = some k) w w' :=
  ⟨h.os, h.tape, h.output, h.size, fun k hk hF => h.block k hk (fun e => hF e.symm)⟩

/-- The cells of slots: two a slot. -/
def cl2 (f : Sl → Value × Value) : List Sl → List Value
  | [] => []
  | s :: l => (f s).1 :: (f s).2 :: cl2 f l

section
variable {f : Sl → Value × Value}
theorem cl2_len (l : List Sl) : (cl2 f l).length = l.length * 2 := by
  induction l with
  | nil => rfl
  | cons s l ih => simp [cl2, ih]; omega
theorem cl2_append (a b : List Sl) : cl2 f (a ++ b) = cl2 f a ++ cl2 f b := by
  induction a with
  | nil => rfl
  | cons s a ih => simp [cl2, ih]
theorem cl2_get (l : List Sl) (i : Nat) (s : Sl) (h : l[i]? = some s) : (cl2 f l)[i * 2]? = some (f s).1 ∧ (cl2 f l)[i * 2 + 1]? = some (f s).2 := by
  induction l generalizing i with
  | nil => simp at h
  | cons x l ih =>
    cases i with
    | zero => simp at h; subst h; exact ⟨rfl, rfl⟩
    | succ i =>
      simp at h
      rw [show (i + 1) * 2 = i * 2 + 1 + 1 by omega]
      exact ih i h
theorem cl2_take (l : List Sl) (k : Nat) : (cl2 f l).take (k * 2) = cl2 f (l.take k) := by
  induction l generalizing k with
  | nil => simp [cl2]
  | cons x l ih =>
    cases k with
    | zero => simp [cl2]
    | succ k => rw [show (k + 1) * 2 = k * 2 + 1 + 1 by omega]; simp [cl2, ih]
theorem cl2_set2 (l : List Sl) (i : Nat) (s : Sl) : ((cl2 f l).set (i * 2) (f s).1).set (i * 2 + 1) (f s).2 = cl2 f (l.set i s) := by
  induction l generalizing i with
  | nil => rfl
  | cons x l ih =>
    cases i with
    | zero => rfl
    | succ i => rw [show (i + 1) * 2 = i * 2 + 1 + 1 by omega]; simp [cl2, ih]
theorem cl2_setB (l : List Sl) (i : Nat) (s x : Sl) (hx : l[i]? = some x) (h : (f x).1 = (f s).1) : (cl2 f l).set (i * 2 + 1) (f s).2 = cl2 f (l.set i s) := by
  induction l generalizing i with
  | nil => rfl
  | cons y l ih =>
    cases i with
    | zero => simp at hx; subst hx; simp [cl2, h]
    | succ i => simp at hx; rw [show (i + 1) * 2 = i * 2 + 1 + 1 by omega]; simp [cl2, ih i hx]
theorem cl2_setA (l : List Sl) (i : Nat) (s x : Sl) (hx : l[i]? = some x) (h : (f x).2 = (f s).2) : (cl2 f l).set (i * 2) (f s).1 = cl2 f (l.set i s) := by
  induction l generalizing i with
  | nil => rfl
  | cons y l ih =>
    cases i with
    | zero => simp at hx; subst hx; simp [cl2, h]
    | succ i => simp at hx; rw [show (i + 1) * 2 = i * 2 + 1 + 1 by omega]; simp [cl2, ih i hx]
end

theorem own_set {w : World} {B : Nat} {T : TypeId} {sz n b c : Nat} {xs : List Value} (h : w.ownsRow B T sz (.slice (some ⟨b, 0, none⟩) n c) n xs) (o : Nat) (x : Value) : (w.setCell ⟨b, o, none⟩ x).ownsRow B T sz (.slice (some ⟨b, 0, none⟩) n c) n (xs.set o x) := by
  refine ⟨by simpa using h.1, ?_⟩
  rcases h.2 with ⟨e, _⟩ | ⟨g, cap, cur, e, h1, h2, h3, h4, h5, h6⟩
  · cases e
  · cases e
    refine Or.inr ⟨b, c, _, rfl, h1, heap_setCell_same w b o cur T x h2, h3, h4, by simpa using h5, ?_⟩
    rw [Array.toList_setIfInBounds, List.take_set, h6]
theorem own_take {w : World} {B : Nat} {T : TypeId} {sz n k c : Nat} {a : Option Addr} {xs : List Value} (h : w.ownsRow B T sz (.slice a n c) n xs) (hk : k ≤ n) : w.ownsRow B T sz (.slice a k c) k (xs.take (k * sz)) := by
  refine ⟨?_, ?_⟩
  · rw [List.length_take, h.1]
    exact Nat.min_eq_left (Nat.mul_le_mul_right _ hk)
  · rcases h.2 with ⟨e, rfl⟩ | ⟨g, cap, cur, e, h1, h2, h3, h4, h5, h6⟩
    · have : k = 0 := by omega
      subst this
      exact Or.inl ⟨e, rfl⟩
    · cases e
      refine Or.inr ⟨g, c, cur, rfl, h1, h2, by omega, h4, h5, ?_⟩
      rw [← h6, List.take_take, Nat.min_eq_left (Nat.mul_le_mul_right _ hk)]
theorem own_mono {w : World} {B B' : Nat} {T : TypeId} {sz n : Nat} {v : Value} {xs : List Value} (h : w.ownsRow B T sz v n xs) (hB : B' ≤ B) : w.ownsRow B' T sz v n xs := by
  refine ⟨h.1, ?_⟩
  rcases h.2 with e | ⟨g, cap, cur, e, h1, r⟩
  · exact Or.inl e
  · exact Or.inr ⟨g, cap, cur, e, Nat.le_trans hB h1, r⟩

/-- Slots in memory, in blocks from B on. -/
structure Rw (T : TypeId) (f : Sl → Value × Value) (w : World) (B : Nat) (v : Value) (l : List Sl) : Prop where
  own : w.ownsRow B T 2 v l.length (cl2 f l)

section
variable {T : TypeId} {f : Sl → Value × Value} {w w' : World} {B : Nat} {v : Value} {l : List Sl}
theorem Rw.blk (h : Rw T f w B v l) {k : Nat} (hk : v.ownBlock = some k) : B ≤ k ∧ k < w.heap.size := h.own.lt k hk
theorem Rw.kept (h : Rw T f w B v l) (h1 : ∀ k, v.ownBlock = some k → w'.heap[k]? = w.heap[k]?) : Rw T f w' B v l := by
  refine ⟨⟨h.own.1, ?_⟩⟩
  rcases h.own.2 with e | ⟨g, cap, cur, rfl, a, b, c⟩
  · exact Or.inl e
  · exact Or.inr ⟨g, cap, cur, rfl, a, (h1 g rfl).trans b, c⟩
theorem Rw.below {B' : Nat} (h : Rw T f w B v l) (hb : Below B' w w') (hk : ∀ k, v.ownBlock = some k → k < B') : Rw T f w' B v l :=
  h.kept (fun k e => hb.block k (hk k e))
theorem Rw.below' (h : Rw T f w B v l) (hb : Below w.heap.size w w') : Rw T f w' B v l := h.below hb (fun _ e => (h.blk e).2)
theorem Rw.mono {B' : Nat} (h : Rw T f w B v l) (hB : B' ≤ B) : Rw T f w B' v l := ⟨own_mono h.own hB⟩
theorem Rw.len (h : Rw T f w B v l) : ∃ a c, v = .slice a l.length c ∧ l.length ≤ c ∧ c ≤ maxLen := by
  rcases h.own.2 with ⟨rfl, e⟩ | ⟨g, cap, cur, rfl, _, _, c, d, _⟩
  · rw [e]; exact ⟨_, _, rfl, Nat.le_refl _, Nat.zero_le _⟩
  · exact ⟨_, _, rfl, c, d⟩
theorem Rw.cell (h : Rw T f w B v l) {i : Nat} {s : Sl} (hs : l[i]? = some s) : ∃ b c, v = .slice (some ⟨b, 0, none⟩) l.length c ∧ l.length ≤ c ∧ c ≤ maxLen ∧ B ≤ b ∧ b < w.heap.size ∧ w.cell? ⟨b, i * 2, none⟩ = some (f s).1 ∧ w.cell? ⟨b, i * 2 + 1, none⟩ = some (f s).2 ∧ w.frozen? ⟨b, i * 2, none⟩ = false ∧ w.frozen? ⟨b, i * 2 + 1, none⟩ = false := by
  have hlt : i < l.length := (List.getElem?_eq_some_iff.1 hs).1
  have h0 := h.own
  rcases h.own.2 with ⟨_, e⟩ | ⟨g, cap, cur, rfl, hb, hg, c, d, _⟩
  · omega
  · obtain ⟨x, y⟩ := cl2_get (f := f) l i s hs
    exact ⟨g, cap, rfl, c, d, hb, (Array.getElem?_eq_some_iff.1 hg).1, by rw [h0.cellAt _ (by omega)]; exact x, by rw [h0.cellAt _ (by omega)]; exact y, frozen_of_row w g _ _ _ hg, frozen_of_row w g _ _ _ hg⟩
theorem Rw.take {a : Option Addr} {c k : Nat} (h : Rw T f w B (.slice a l.length c) l) (hk : k ≤ l.length) : Rw T f w B (.slice a k c) (l.take k) := by
  have := own_take h.own hk
  rw [cl2_take] at this
  refine ⟨?_⟩
  rw [List.length_take, Nat.min_eq_left hk]
  exact this
theorem Rw.set2 {b c i : Nat} {s : Sl} (h : Rw T f w B (.slice (some ⟨b, 0, none⟩) l.length c) l) : Rw T f ((w.setCell ⟨b, i * 2, none⟩ (f s).1).setCell ⟨b, i * 2 + 1, none⟩ (f s).2) B (.slice (some ⟨b, 0, none⟩) l.length c) (l.set i s) := by
  have := own_set (own_set h.own (i * 2) (f s).1) (i * 2 + 1) (f s).2
  rw [cl2_set2] at this
  refine ⟨?_⟩
  rw [List.length_set]
  exact this
theorem Rw.setB {b c i : Nat} {s x : Sl} (h : Rw T f w B (.slice (some ⟨b, 0, none⟩) l.length c) l) (hx : l[i]? = some x) (e : (f x).1 = (f s).1) : Rw T f (w.setCell ⟨b, i * 2 + 1, none⟩ (f s).2) B (.slice (some ⟨b, 0, none⟩) l.length c) (l.set i s) := by
  have := own_set h.own (i * 2 + 1) (f s).2
  rw [cl2_setB l i s x hx e] at this
  refine ⟨?_⟩
  rw [List.length_set]
  exact this
theorem Rw.setA {b c i : Nat} {s x : Sl} (h : Rw T f w B (.slice (some ⟨b, 0, none⟩) l.length c) l) (hx : l[i]? = some x) (e : (f x).2 = (f s).2) : Rw T f (w.setCell ⟨b, i * 2, none⟩ (f s).1) B (.slice (some ⟨b, 0, none⟩) l.length c) (l.set i s) := by
  have := own_set h.own (i * 2) (f s).1
  rw [cl2_setA l i s x hx e] at this
  refine ⟨?_⟩
  rw [List.length_set]
  exact this
end

/-- A slot of the program; a slot of the document. -/
def cf (s : Sl) : Value × Value := (.bool s.isSome, .string (rowOf s))
def rf (s : Sl) : Value × Value := (.string (rowOf s), .bool s.isSome)
theorem Tryz.info161 : (Tryz.prog.info? 161).map (fun i => (i.zero, i.size, i.bytes)) = some (some (.agg #[.bool false, .string ⟨#[]⟩]), 2, 24) := by kernel_rfl

theorem cf_one (l : List Sl) : ∀ u ∈ cl2 cf l, u.oneCell' = true := by
  induction l with
  | nil => intro u h; cases h
  | cons s l ih =>
    intro u h
    simp only [cl2, List.mem_cons] at h
    rcases h with rfl | rfl | h
    · rfl
    · rfl
    · exact ih u h
theorem rf_one (l : List Sl) : ∀ u ∈ cl2 rf l, u.oneCell' = true := by
  induction l with
  | nil => intro u h; cases h
  | cons s l ih =>
    intro u h
    simp only [cl2, List.mem_cons] at h
    rcases h with rfl | rfl | h
    · rfl
    · rfl
    · exact ih u h

/-- append to a row of the program's slots. -/
theorem run_append_cf (w : World) (B : Nat) (ty : TypeId) (v : Value) (l m : List Sl) (h : Rw 161 cf w B v l) (a : Addr) (c : Nat) (hm : ∀ j u, (cl2 cf m)[j]? = some u → w.cell? (a.add j) = some u) (hlen : l.length + m.length ≤ 1000000) (hB : B ≤ w.heap.size) :
    ∃ v' w', (Builtin.append_ #[157, 157] ty #[v, .slice (some a) m.length c]).run Tryz.prog w = .ok v' w' ∧ Rw 161 cf w' B v' (l ++ m) ∧ Fr (fun k => v.ownBlock = some k) w w' ∧ ∀ k, v'.ownBlock = some k → v.ownBlock = some k ∨ w.heap.size ≤ k := by
  obtain ⟨i0, hi, hz0, hz1, hz2⟩ := info_parts Tryz.info161
  obtain ⟨v', w', hr, h2, h3, h4⟩ := run_append_own2 (P := Tryz.prog) w B 157 ty 161 i0 _ 2 24 Tryz.underlying157 hi hz0 hz1 hz2 rfl (by decide) v l.length (cl2 cf l) h.own a m.length c (cl2 cf m) (cl2_len m) hm (cf_one m) (by unfold maxLen; omega) (by omega) hB
  refine ⟨v', w', hr, ⟨?_⟩, Fr.of_grown h3, h4⟩
  rw [List.length_append, cl2_append]
  exact h2

/-- append of one slot, in a list of operations. -/
theorem wpList_append_cf {ops : Array Oper} {rest : List Oper} {o : Oper} {ac : Act} {Q : Exit → Act → World → Prop} (w : World) (hgd : o.guard = none) (s x : Operand)
    (ho : o.op = .call { callee := .builtin .append, args := #[s, x], argTypes := #[157, 157] })
    (B : Nat) (v : Value) (l : List Sl) (hs : ac.eval s = v) (hrow : Rw 161 cf w B v l) (a : Nat) (y : Sl) (hx : ac.eval x = .slice (some ⟨a, 0, none⟩) 1 1) (h0 : w.cell? ⟨a, 0, none⟩ = some (cf y).1) (h1 : w.cell? ⟨a, 1, none⟩ = some (cf y).2) (hlen : l.length ≤ 1000) (hB : B ≤ w.heap.size)
    (h : ∀ v' w', Rw 161 cf w' B v' (l ++ [y]) → Fr (fun k => v.ownBlock = some k) w w' → (∀ k, v'.ownBlock = some k → v.ownBlock = some k ∨ w.heap.size ≤ k) → wpList Tryz.prog ops Q rest (ac.put o.dst v') w') : wpList Tryz.prog ops Q (o :: rest) ac w := by
  obtain ⟨v', w', hr, h2, h3, h4⟩ := run_append_cf w B o.type v l [y] hrow ⟨a, 0, none⟩ 1 (by
    intro j u hu
    rw [Addr.add_lit]
    match j, hu with
    | 0, hu => simp [cl2] at hu; subst hu; exact h0
    | 1, hu => simp [cl2] at hu; subst hu; exact h1) (by simp; omega) hB
  refine wpList_plain hgd fun K hK => ?_
  unfold Oper.wp execOp
  simp only [List.length_cons, List.length_nil, Nat.zero_add] at hr
  simp only [ho, resolve, invoke, builtin, Sem.run_bind, Sem.run_pure, Result.andThen_ok, List.map_toArray, List.map_cons, List.map_nil, hs, hx, hr]
  exact hK _ _ (h v' w' h2 h3 h4)

end Go.Proofs.YtkjioabhdglkpaaGreat
end

section
namespace Go.Proofs.YtkjioabhdglkpaaGreat
open Go.RowKit

def slen : Value → Nat
  | .slice _ n _ => n
  | _ => 0

set_option maxHeartbeats 800000 in
set_option maxRecDepth 100000 in
theorem trim_any (a : Option Addr) (c : Nat) (l : List Sl) (B : Nat) (w : World) (h : Rw 161 cf w B (.slice a l.length c) l) (hl : l.length ≤ 1000) (hc : l.length ≤ c) :
    Calls Tryz.prog 115 #[.slice a l.length c] w fun e w' => e = .returned (.slice a (trimL l).length c) ∧ w' = w := by
  go_enter Tryz.func115, Tryz.ntmps115
  go_wp2_with fail
  go_loop [0] (fun sl => ∃ k : Nat, k ≤ l.length ∧ sl = .slice a k c ∧ trimL (l.take k) = trimL l) (fun sl => slen sl)
  case atStart => exact ⟨l.length, Nat.le_refl _, rfl, by rw [List.take_length]⟩
  case round =>
    obtain ⟨k, hk, rfl, hT⟩ := hrel
    have HT : Hid (trimL (l.take k) = trimL l) := hT
    clear hT
    by_cases h0 : k = 0
    · subst h0
      have e : (trimL l).length = 0 := by rw [← HT.out]; rfl
      go_wp2_with fail
      go_ret
      exact ⟨rfl, rfl⟩
    · obtain ⟨j, rfl⟩ : ∃ j, k = j + 1 := ⟨k - 1, by omega⟩
      have hx : l[j]? = some l[j] := by simp [show j < l.length by omega]
      generalize l[j] = s at hx
      obtain ⟨b, c', e, _, _, _, _, c0, _⟩ := h.cell hx
      cases e
      have hts := take_snoc l j s hx
      cases s with
      | none =>
        have HT2 : Hid (trimL (l.take j) = trimL l) := by show _ = _; rw [← HT.out, hts, trim_none]
        have c0' : w.cell? ⟨b, j * 2, none⟩ = some (.bool false) := c0
        clear c0 hts HT
        go_wp2_with fail
        go_round
        case rel => exact ⟨j, by omega, rfl, HT2.out⟩
        case measure => simp [slen]
      | some r =>
        have e2 : (trimL l).length = j + 1 := by rw [← HT.out, hts, trim_some, ← hts, List.length_take]; omega
        have c0' : w.cell? ⟨b, j * 2, none⟩ = some (.bool true) := c0
        clear c0 hts HT
        go_wp2_with fail
        go_ret
        exact ⟨rfl, rfl⟩

theorem repeat0 (n : Nat) : Lib.repeatL [0] n = List.replicate n (0 : UInt8) := by
  induction n with
  | zero => rfl
  | succ n ih => simp [Lib.repeatL, ih, List.replicate_succ]

set_option maxHeartbeats 400000 in
theorem zeros_any (n : Nat) (w : World) (hn : n ≤ 1000000) :
    Calls Tryz.prog 117 #[.int .i64 (n : Int)] w fun e w' => e = .returned (.string (ba (List.replicate n 0))) ∧ Below w.heap.size w w' := by
  have c := fun w => Tryz.strings_Repeat ⟨#[0]⟩ n w (by omega) (by show 1 * n ≤ _; omega)
  have e : Lib.repeatL (⟨#[0]⟩ : ByteArray).data.toList n = List.replicate n 0 := repeat0 n
  rw [e] at c
  go_enter Tryz.func117, Tryz.ntmps117
  go_wp2_with fail
  refine (c _).mono ?_
  rintro e w1 ⟨rfl, b1⟩
  go_wp2_with fail
  go_ret
  exact ⟨rfl, b1⟩

set_option maxHeartbeats 800000 in
set_option maxRecDepth 100000 in
theorem room_any (a : Option Addr) (c : Nat) (l : List Sl) (B : Nat) (w : World) (h : Rw 161 cf w B (.slice a l.length c) l) (hl : l.length ≤ 1000) (hr : ∀ r, some r ∈ l → r.size ≤ 400) (R : Int) (HR : Hid (room l = R)) :
    Calls Tryz.prog 116 #[.slice a l.length c] w fun e w' => e = .returned (.int .i64 R) ∧ Below w.heap.size w w' := by
  go_enter Tryz.func116, Tryz.ntmps116
  go_wp2_with fail
  go_loopw [3, 12] (fun sn si wr => ∃ k : Nat, k ≤ l.length ∧ si = .int .i64 (k : Int) ∧ sn = .int .i64 (508 - 4 * (l.length : Int) - (tot (l.take k) : Int)) ∧ tot (l.take k) ≤ 400 * k ∧ Below w.heap.size w wr) (fun _ si _ => l.length - (intOf si).toNat)
  case atStart => exact ⟨0, Nat.zero_le _, rfl, by simp [tot], by simp [tot], Below.refl _ _⟩
  case round =>
    obtain ⟨k, hk, rfl, rfl, ht, hb⟩ := hrel
    by_cases hlt : k < l.length
    · have hlt2 : (k : Int) < (l.length : Int) := by omega
      have hx : l[k]? = some l[k] := by simp [hlt]
      generalize l[k] = s at hx
      obtain ⟨b, c', e, _, _, _, hbl, c0, c1, _⟩ := h.cell hx
      cases e
      have hmem := List.mem_of_getElem? hx
      have hts : tot (l.take (k + 1)) = tot (l.take k) + (rowOf s).size := by rw [take_snoc l k s hx, tot_append]; simp [tot]
      have hs : (rowOf s).size ≤ 400 := by
        cases s with
        | none => exact Nat.zero_le _
        | some r => exact hr r hmem
      have d0 : wr.cell? ⟨b, k * 2, none⟩ = some (.bool s.isSome) := (hb.cell (p := ⟨b, k * 2, none⟩) hbl).trans c0
      have d1 : wr.cell? ⟨b, k * 2 + 1, none⟩ = some (.string (rowOf s)) := (hb.cell (p := ⟨b, k * 2 + 1, none⟩) hbl).trans c1
      clear c0 c1
      generalize s.isSome = q at *
      generalize rowOf s = rw0 at *
      generalize tot (l.take k) = t at *
      go_wp2_with fail
      go_roundw
      case rel => exact ⟨k + 1, by omega, by go_num, by rw [hts]; go_num, by omega, below2 hb (below_alloc1 _ _)⟩
      case measure => simp [intOf]; omega
    · obtain rfl : k = l.length := by omega
      rw [List.take_length] at *
      have e : 508 - 4 * (l.length : Int) - (tot l : Int) = R := HR.out
      go_wp2_with fail
      go_ret
      exact ⟨by rw [← e]; rfl, hb⟩

set_option maxHeartbeats 800000 in
set_option maxRecDepth 100000 in
theorem withFree_any (a : Option Addr) (c : Nat) (l : List Sl) (B : Nat) (w : World) (h : Rw 161 cf w B (.slice a l.length c) l) (hl : l.length ≤ 999) (hB : B ≤ w.heap.size) :
    Calls Tryz.prog 149 #[.slice a l.length c] w fun e w' => ∃ v, e = .returned (.tuple #[v, .int .i64 (first l : Int)]) ∧ Rw 161 cf w' B v (withF l) ∧ Below B w w' := by
  go_enter Tryz.func149, Tryz.ntmps149
  go_wp2_with fail
  go_loopw [8] (fun si wr => ∃ k : Nat, k ≤ first l ∧ si = .int .i64 (k : Int) ∧ Below w.heap.size w wr) (fun si _ => l.length - (intOf si).toNat)
  case atStart => exact ⟨0, Nat.zero_le _, rfl, Below.refl _ _⟩
  case round =>
    obtain ⟨k, hk, rfl, hb⟩ := hrel
    have hfl := first_le l
    by_cases hlt : k < l.length
    · have hlt2 : (k : Int) < (l.length : Int) := by omega
      by_cases hf : k < first l
      · obtain ⟨r, hx⟩ := first_lt l k hf
        obtain ⟨b, c', e, _, _, _, hbl, c0, c1, _⟩ := h.cell hx
        cases e
        have d0 : wr.cell? ⟨b, k * 2, none⟩ = some (.bool true) := (hb.cell (p := ⟨b, k * 2, none⟩) hbl).trans c0
        have d1 : wr.cell? ⟨b, k * 2 + 1, none⟩ = some (.string r) := (hb.cell (p := ⟨b, k * 2 + 1, none⟩) hbl).trans c1
        clear c0 c1
        go_wp2_with fail
        go_roundw
        case rel => exact ⟨k + 1, by omega, by go_num, below2 hb (below_alloc1 _ _)⟩
        case measure => simp [intOf]; omega
      · obtain rfl : k = first l := by omega
        have hx := first_none l hlt
        obtain ⟨b, c', e, _, _, _, hbl, c0, c1, _⟩ := h.cell hx
        cases e
        have d0 : wr.cell? ⟨b, first l * 2, none⟩ = some (.bool false) := (hb.cell (p := ⟨b, first l * 2, none⟩) hbl).trans c0
        have d1 : wr.cell? ⟨b, first l * 2 + 1, none⟩ = some (.string ⟨#[]⟩) := (hb.cell (p := ⟨b, first l * 2 + 1, none⟩) hbl).trans c1
        clear c0 c1
        have hw : withF l = l := by unfold withF; rw [if_pos hlt]
        have b2 := below2 hb (below_alloc1 wr (.cells #[.bool false, .string ⟨#[]⟩] 161))
        go_wp2_with fail
        go_ret2
        exact ⟨_, rfl, by rw [hw]; exact h.below' b2, b2.mono hB⟩
    · have hf : first l = l.length := by omega
      have hkl : k = l.length := by omega
      have hw : withF l = l ++ [none] := by unfold withF; rw [if_neg (by omega)]
      subst hkl
      have hr := h.below' (below2 hb (below_alloc1 wr (.cells #[.bool false, .string ⟨#[]⟩] 161)))
      have hsz := hb.size
      go_wp2_with (at_builtin; refine wpList_append_cf _ rfl _ _ rfl B _ l rfl hr wr.heap.size none rfl (by simp; rfl) (by simp; rfl) (by omega) (by simp; omega) ?_; intro v' w' hrow hfr hnew)
      go_ret2
      refine ⟨_, by rw [hf]; rfl, by rw [hw]; exact hrow, ?_⟩
      exact hfr.below ((below2 hb (below_alloc1 _ _)).mono hB) (by simp; omega) (fun k e => (h.blk e).1)

end Go.Proofs.YtkjioabhdglkpaaGreat
end

section
namespace Go.Proofs.YtkjioabhdglkpaaGreat
open Go.RowKit

/-- A builder of the call's own that holds bytes. -/
def Bd (B b : Nat) (l : List UInt8) (w : World) : Prop := Lib.IsBuilderF 142 5 B b (Lib.byteCells l) w

theorem bdWrite_any (B b : Nat) (l : List UInt8) (s : ByteArray) (w : World) (h : Bd B b l w) (hlen : l.length + s.size ≤ 140737488355328) (hBw : B ≤ w.heap.size) :
    Calls Tryz.prog 67 #[.pointer (some ⟨b, 0, none⟩), .string s] w fun e w' => e = .returned (.tuple #[.int .i64 s.size, .nilIface]) ∧ Bd B b (l ++ s.data.toList) w' ∧ Below B w w' ∧ Lib.OthersKept 5 (some b) w w' := by
  have c := Any.Builder_WriteString_k { Tryz.lays105 with } Tryz.Builder_Extra_105 B b (Lib.byteCells l) s w h (by rw [Lib.byteCells_length]; exact hlen) hBw
  refine c.mono ?_
  rintro e w' ⟨rfl, h1, h2, h3⟩
  refine ⟨rfl, Or.inr ?_, h2, h3⟩
  rw [Lib.byteCells_append, ← Lib.strCells_eq]
  exact h1

theorem bdLen_any (B b : Nat) (l : List UInt8) (w : World) (h : Bd B b l w) :
    Calls Tryz.prog 97 #[.pointer (some ⟨b, 0, none⟩)] w fun e w' => e = .returned (.int .i64 (l.length : Int)) ∧ w' = w := by
  have c := Tryz.Builder_Len_f B b (Lib.byteCells l) w h
  rw [Lib.byteCells_length] at c
  exact c

theorem bdString_any (B b : Nat) (l : List UInt8) (w : World) (h : Bd B b l w) (hBw : B ≤ w.heap.size) :
    Calls Tryz.prog 69 #[.pointer (some ⟨b, 0, none⟩)] w fun e w' => e = .returned (.string (ba l)) ∧ Below B w w' := by
  refine (Tryz.Builder_String_any_f B b l w h hBw).mono ?_
  rintro e w' ⟨rfl, _, h2⟩
  exact ⟨rfl, h2⟩

theorem ownsF_below {w w' : World} {base e size : Nat} {v : Value} {n : Nat} {xs : List Value} (h : w.ownsRowF base e size v n xs) (hb : Below w.heap.size w w') : w'.ownsRowF base e size v n xs := by
  obtain ⟨h1, h2⟩ := h
  refine ⟨h1, ?_⟩
  rcases h2 with h2 | ⟨g, cap, cur, fz, hv, hg, hh, r⟩
  · exact Or.inl h2
  · refine Or.inr ⟨g, cap, cur, fz, hv, hg, ?_, r⟩
    have hlt : g < w.heap.size := (Array.getElem?_eq_some_iff.1 hh).1
    rw [hb.block g hlt]
    exact hh
theorem Bd.below {B b : Nat} {l : List UInt8} {w w' : World} (h : Bd B b l w) (hb : Below w.heap.size w w') : Bd B b l w' := by
  have go : ∀ p, Lib.BuilderAtF 142 5 B b p (Lib.byteCells l) w → Lib.BuilderAtF 142 5 B b p (Lib.byteCells l) w' := by
    intro p h
    obtain ⟨h1, v, h2, h3, h4⟩ := h
    have hlt : b < w.heap.size := (Array.getElem?_eq_some_iff.1 h2).1
    exact ⟨h1, v, by rw [hb.block b hlt]; exact h2, ownsF_below h3 hb, h4⟩
  rcases h with h | h
  · exact Or.inl (go _ h)
  · exact Or.inr (go _ h)

theorem bdGrow_any (w : World) : Calls Tryz.prog 96 #[.pointer (some ⟨w.heap.size, 0, none⟩), .int .i64 512] (w.alloc (.cells #[.pointer none, .slice none 0 0] 142)) fun e w' => e = .returned (.tuple #[]) ∧ Bd w.heap.size w.heap.size [] w' ∧ Below w.heap.size w w' := by
  refine (Tryz.Builder_Grow_fresh w.heap.size w.heap.size 512 _ (Nat.le_refl _) (heap_alloc_new w _) (by simp) (by omega)).mono ?_
  rintro e w1 ⟨rfl, h1, h2⟩
  exact ⟨rfl, Or.inr (Lib.BuilderAtF.of h1), (below_alloc1 w _).trans h2⟩

theorem ba_cat (a b : List UInt8) : ba a ++ ba b = ba (a ++ b) := by
  apply ba_ext
  simp [ba]

set_option maxHeartbeats 1600000 in
set_option maxRecDepth 100000 in
theorem pwrite_any (a : Option Addr) (c : Nat) (l : List Sl) (B : Nat) (w : World) (h : Rw 161 cf w B (.slice a l.length c) l) (hl : l.length ≤ 1000) (hc : l.length ≤ c) (hF : Fine (trimL l)) (P : ByteArray) (HP : Hid (pg (trimL l) = P)) :
    Calls Tryz.prog 121 #[.slice a l.length c] w fun e w' => e = .returned (.string P) ∧ Below w.heap.size w w' := by
  have cT := trim_any a c l B w h hl hc
  have hm : Rw 161 cf w B (.slice a (trimL l).length c) (trimL l) := by
    have := h.take (trim_len l).1
    rw [← (trim_len l).2] at this
    exact this
  have hmc : (trimL l).length ≤ c := Nat.le_trans (trim_len l).1 hc
  clear h
  generalize trimL l = m at *
  have hfew := few hF.room
  have hH := head_len m hF.room hF.rows
  have cG := bdGrow_any w
  go_enter Tryz.func121, Tryz.ntmps121
  go_wp2_with fail
  go_step3
  go_wp2_with fail
  refine cT.mono ?_
  rintro e w0 ⟨rfl, e0⟩
  rw [e0]
  clear e0 cT
  go_wp2_with fail
  refine cG.mono ?_
  rintro e w1 ⟨rfl, d1, b1⟩
  clear cG
  go_wp2_with fail
  refine (put_any m.length w1 (by omega)).mono ?_
  rintro e w2 ⟨rfl, b2⟩
  have d2 := d1.below b2
  have b02 := b1.trans (b2.mono b1.size)
  have hE : (ByteArray.mk (enc m.length).toArray).size = (enc m.length).length := rfl
  have hE2 := (enc_len m.length).2
  go_wp2_with fail
  refine (bdWrite_any _ _ _ _ _ d2 (by rw [hE]; simp; omega) b02.size).mono ?_
  rintro e w3 ⟨rfl, d3, b3, _⟩
  have b03 := b02.trans b3
  have d3' : Bd w.heap.size w.heap.size (enc m.length ++ bodyL (m.take 0)) w3 := by simpa [bodyL] using d3
  clear d1 d2 d3 b1 b2 b3 b02 hE
  go_wp2_with fail
  go_step3
  go_wp2_with fail
  go_loopw [16] (fun si wr => ∃ k : Nat, k ≤ m.length ∧ si = .int .i64 (k : Int) ∧ Hid (Bd w.heap.size w.heap.size (enc m.length ++ bodyL (m.take k)) wr) ∧ Below w.heap.size w wr) (fun si _ => m.length - (intOf si).toNat)
  case atStart => exact ⟨0, Nat.zero_le _, rfl, d3', b03⟩
  case round =>
    obtain ⟨k, hk, rfl, hD, hb⟩ := hrel
    have hwl : w.heap.size < wr.heap.size := by
      rcases hD.out with q | q
      · obtain ⟨_, v, q2, _⟩ := q; exact (Array.getElem?_eq_some_iff.1 q2).1
      · obtain ⟨_, v, q2, _⟩ := q; exact (Array.getElem?_eq_some_iff.1 q2).1
    by_cases hlt : k < m.length
    · have hlt2 : (k : Int) < (m.length : Int) := by omega
      have hx : m[k]? = some m[k] := by simp [hlt]
      generalize m[k] = s at hx
      obtain ⟨b, c', e, _, _, _, hbl, c0, c1, _⟩ := hm.cell hx
      cases e
      have hmem := List.mem_of_getElem? hx
      have HB : Hid (bodyL (m.take (k + 1)) = bodyL (m.take k) ++ wd s) := by show _ = _; rw [take_snoc m k s hx, bodyL_append]; simp [bodyL]
      have hbb : (bodyL (m.take k)).length ≤ 512 := by
        have e : bodyL m = bodyL (m.take k) ++ bodyL (m.drop k) := by rw [← bodyL_append, List.take_append_drop]
        have := congrArg List.length e
        simp only [headL, List.length_append] at hH this
        omega
      have hb1 := below2 hb (below_alloc1 wr (.cells #[.bool s.isSome, .string (rowOf s)] 161))
      have hD1 := hD.out.below (below_alloc1 wr (.cells #[.bool s.isSome, .string (rowOf s)] 161))
      cases s with
      | none =>
        have d0 : wr.cell? ⟨b, k * 2, none⟩ = some (.bool false) := (hb.cell (p := ⟨b, k * 2, none⟩) hbl).trans c0
        have d1 : wr.cell? ⟨b, k * 2 + 1, none⟩ = some (.string ⟨#[]⟩) := (hb.cell (p := ⟨b, k * 2 + 1, none⟩) hbl).trans c1
        clear c0 c1
        go_wp2_with fail
        refine (put_any 0 _ (by omega)).mono ?_
        rintro e w4 ⟨rfl, b4⟩
        have hD2 := hD1.below b4
        have hb2 := below2 hb1 b4
        have hE : (ByteArray.mk (enc 0).toArray).size = 1 := rfl
        go_wp2_with fail
        refine (bdWrite_any _ _ _ _ _ hD2 (by rw [hE]; simp; omega) hb2.size).mono ?_
        rintro e w5 ⟨rfl, hD3, b5, _⟩
        go_wp2_with fail
        go_roundw
        case rel =>
          refine ⟨k + 1, by omega, by go_num, ?_, hb2.trans b5⟩
          show Bd _ _ _ _
          rw [HB.out, ← List.append_assoc]
          exact hD3
        case measure => simp [intOf]; omega
      | some r =>
        have d0 : wr.cell? ⟨b, k * 2, none⟩ = some (.bool true) := (hb.cell (p := ⟨b, k * 2, none⟩) hbl).trans c0
        have d1 : wr.cell? ⟨b, k * 2 + 1, none⟩ = some (.string r) := (hb.cell (p := ⟨b, k * 2 + 1, none⟩) hbl).trans c1
        have hr4 := hF.rows r hmem
        clear c0 c1
        go_wp2_with fail
        refine (put_S _ _ (ba (enc (r.size + 1))) (by congr 2; first | done | omega) (by omega) (by omega)).mono ?_
        rintro e w4 ⟨rfl, b4⟩
        have hD2 := hD1.below b4
        have hb2 := below2 hb1 b4
        have hE : (ba (enc (r.size + 1))).size ≤ 10 := (enc_len (r.size + 1)).2
        go_wp2_with fail
        refine (bdWrite_any _ _ _ _ _ hD2 (by simp; omega) hb2.size).mono ?_
        rintro e w5 ⟨rfl, hD3, b5, k5⟩
        have hb3 := hb2.trans b5
        have o4 := (b4.block wr.heap.size (by simp)).trans (heap_alloc_new wr _)
        have o5 := k5 wr.heap.size _ o4 (by intro e; have := Option.some.inj e; have := hb.size; have := hwl; omega) (by intro c fz e; injection e with _ e _; exact absurd e (by decide))
        have q1 : w5.cell? ⟨wr.heap.size, 1, none⟩ = some (.string r) := by simp [World.cell?, o5]
        have hE3 := (enc_len (r.size + 1)).2
        go_wp2_with fail
        refine (bdWrite_any _ _ _ r _ hD3 (by simp [ba]; omega) hb3.size).mono ?_
        rintro e w6 ⟨rfl, hD4, b6, _⟩
        go_wp2_with fail
        go_roundw
        case rel =>
          refine ⟨k + 1, by omega, by go_num, ?_, hb3.trans b6⟩
          show Bd _ _ _ _
          rw [HB.out]
          simpa [wd, ba] using hD4
        case measure => simp [intOf]; omega
    · obtain rfl : k = m.length := by omega
      rw [List.take_length] at hD
      have hD' : Bd w.heap.size w.heap.size (headL m) wr := hD.out
      have cL := bdLen_any _ _ _ _ hD'
      have cZ := zeros_any (512 - (headL m).length) wr (by omega)
      rw [show ((512 - (headL m).length : Nat) : Int) = 512 - ((headL m).length : Int) by omega] at cZ
      have HP2 : Hid (ba (headL m ++ List.replicate (512 - (headL m).length) 0) = P) := HP
      generalize hn : (headL m).length = n at *
      go_wp2_with fail
      refine cL.mono ?_
      rintro e w4 ⟨rfl, e4⟩
      rw [e4]
      clear e4 cL
      go_wp2_with fail
      refine cZ.mono ?_
      rintro e w5 ⟨rfl, b5⟩
      have hD2 := hD'.below b5
      have hb2 := below2 hb b5
      go_wp2_with fail
      refine (bdWrite_any _ _ _ _ _ hD2 (by rw [ba_size, List.length_replicate, hn]; omega) hb2.size).mono ?_
      rintro e w6 ⟨rfl, hD3, b6, _⟩
      have hb3 := hb2.trans b6
      go_wp2_with fail
      refine (bdString_any _ _ _ _ hD3 hb3.size).mono ?_
      rintro e w7 ⟨rfl, b7⟩
      go_wp2_with fail
      rw [Exit.noGoto_ret]
      go_ret
      exact ⟨by rw [← HP2.out]; rfl, hb3.trans b7⟩

end Go.Proofs.YtkjioabhdglkpaaGreat
end

section
namespace Go.Proofs.YtkjioabhdglkpaaGreat
open Go.RowKit


def JoinQ (A : Act) (R : World → Prop) : Exit → Act → World → Prop
  | .normal, a, V => a = A ∧ R V
  | _, _, _ => False
def JoinV (A : Value → Act) (R : World → Prop) : Exit → Act → World → Prop
  | .normal, a, V => ∃ v, a = A v ∧ R V
  | _, _, _ => False

theorem wp_join {P : Program} {c : Code} {Q : Exit → Act → World → Prop} {act : Act} {w : World} (A : Act) (R : World → Prop) (h : c.wp P (JoinQ A R) act w) (hk : ∀ V, R V → Q .normal A V) : c.wp P Q act w := by
  refine Code.wp_mono (fun e a V h => ?_) h
  cases e with
  | normal => obtain ⟨rfl, r⟩ := h; exact hk V r
  | _ => exact (h : False).elim
theorem wp_joinV {P : Program} {c : Code} {Q : Exit → Act → World → Prop} {act : Act} {w : World} (A : Value → Act) (R : World → Prop) (h : c.wp P (JoinV A R) act w) (hk : ∀ v V, R V → Q .normal (A v) V) : c.wp P Q act w := by
  refine Code.wp_mono (fun e a V h => ?_) h
  cases e with
  | normal => obtain ⟨v, rfl, r⟩ := h; exact hk v V r
  | _ => exact (h : False).elim

theorem bytes_ne {a b : ByteArray} (h : ¬ a = b) : (a.toList == b.toList) = false := by
  rw [beq_eq_false_iff_ne, ByteArray.toList_eq, ByteArray.toList_eq]
  intro q
  exact h (ByteArray.ext (Array.ext' q))


end Go.Proofs.YtkjioabhdglkpaaGreat
end

section
namespace Go.Proofs.YtkjioabhdglkpaaGreat
open Go.RowKit

theorem get_no {l : List UInt8} {a n j : Nat} (h : getAt l (a : Int) = (n, j, false)) : n = 0 ∧ j = 0 := by
  unfold getAt at h
  split at h
  · have := dec_no _ (by rw [h])
    rw [h] at this
    cases this
    exact ⟨rfl, rfl⟩
  · cases h
    exact ⟨rfl, rfl⟩
theorem get_yes {l : List UInt8} {a n j : Nat} (h : getAt l (a : Int) = (n, j, true)) : a + j ≤ l.length ∧ n < 18446744073709551616 ∧ j ≤ 10 := by
  unfold getAt at h
  split at h
  · rename_i hc
    rw [Int.toNat_natCast] at h
    obtain ⟨_, h10, h1, _, h2⟩ := dec_back _ _ _ h
    rw [List.length_drop] at h1
    omega
  · cases h

theorem rd_of {p : ByteArray} {n j A : Nat} {L : List Sl} (hd : getAt p.data.toList 0 = (n, j, true)) (hs : p.size = 512) (hn : n ≤ 127) (h : rdl p n j [] = (A, L)) :
    rd p = if L.length = n ∧ (trimL L).length = L.length ∧ 0 ≤ room L ∧ p.extract A p.size = ba (List.replicate (p.size - A) 0) then some L else none := by
  unfold rd
  rw [hd]
  simp only [h]
  rw [if_neg (by simp; omega)]

theorem rw_nil (w : World) (B : Nat) : Rw 161 cf w B (.slice none 0 0) [] := ⟨World.ownsRow_nil _ _ _ _⟩

set_option maxHeartbeats 20000000 in
set_option maxRecDepth 100000 in
theorem read_any (p : ByteArray) (w : World) (hp : p.size ≤ 1000000) :
    Calls Tryz.prog 85 #[.string p] w fun e w' => ∃ v, e = .returned (.tuple #[v, .bool (rd p).isSome]) ∧ Rw 161 cf w' w.heap.size v ((rd p).getD []) ∧ Below w.heap.size w w' := by
  obtain ⟨i0, hi, hz0, hz1, hz2⟩ := info_parts Tryz.info161
  have cG := fun w => get_any p 0 w
  obtain ⟨d, hd⟩ : ∃ d, getAt p.data.toList 0 = d := ⟨_, rfl⟩
  rw [hd] at cG
  have Hd : Hid (getAt p.data.toList 0 = d) := hd
  clear hd
  obtain ⟨n, j, ok⟩ := d
  simp only [gotV] at cG
  by_cases hs : p.size = 512
  · have hs2 : ((p.size : Int) != 512) = false := by simp; omega
    have HS : Hid (p.size = 512) := hs
    have hp5 : p.size ≤ 512 := by omega
    clear hs
    cases ok with
    | false =>
      have HN : Hid (rd p = none) := by
        show _ = _
        unfold rd
        rw [Hd.out, if_pos (Or.inr (Or.inl rfl))]
      go_enter Tryz.func85, Tryz.ntmps85
      go_wp2_with fail
      go_step3
      go_wp2_with fail
      refine (cG _).mono ?_
      rintro e w1 ⟨rfl, rfl⟩
      go_wp2_with fail
      rw [Exit.noGoto_ret]
      go_ret2
      exact ⟨_, by rw [HN.out]; rfl, by rw [HN.out]; exact rw_nil _ _, (Below.refl _ _)⟩
    | true =>
      by_cases hn : n ≤ 127
      · have hn2 : ¬ (127 : Int) < (n : Int) := by omega
        obtain ⟨hj, _, hj10⟩ := get_yes (a := 0) Hd.out
        rw [Nat.zero_add, show p.data.toList.length = p.size by simp] at hj
        go_enter Tryz.func85, Tryz.ntmps85
        go_wp2_with fail
        go_step3
        go_wp2_with fail
        refine (cG _).mono ?_
        rintro e w1 ⟨rfl, e1⟩
        rw [e1]
        clear e1 cG
        go_wp2_with (at_make; refine wpList_make_own _ rfl _ _ 157 rfl w.heap.size 161 i0 (.agg #[.bool false, .string ⟨#[]⟩]) 2 Tryz.underlying157 hi hz0 hz1 _ _ _ n rfl rfl rfl ?b2 ?b3 (Nat.le_refl _) ?_)
        case b2 => rw [hz2]; omega
        case b3 => unfold maxLen; omega
        intro w2 hown2 hgrow2
        have hb2 : Below w.heap.size w w2 := (Below.refl _ _).grown hgrow2 (Nat.le_refl _) (fun k h => by cases h)
        have hr2 : Rw 161 cf w2 w.heap.size (.slice (some ⟨w.heap.size, 0, none⟩) 0 n) [] := ⟨hown2⟩
        clear hown2 hgrow2
        go_wp2_with fail
        go_step3
        go_wp2_with fail
        go_loopw [5, 7, 33] (fun sat sl si wr => ∃ (a : Nat) (acc : List Sl), a ≤ p.size ∧ acc.length ≤ n ∧ sat = .int .i64 (a : Int) ∧ si = .int .u64 (acc.length : Int) ∧ Rw 161 cf wr w.heap.size sl acc ∧ Hid (rdl p (n - acc.length) a acc = rdl p n j []) ∧ (∀ r, some r ∈ acc → r.size ≤ 400) ∧ Below w.heap.size w wr) (fun _ _ si _ => n - (intOf si).toNat)
        case atStart => exact ⟨j, [], hj, by simp, rfl, rfl, hr2, rfl, by simp, hb2⟩
        case round =>
          obtain ⟨a, acc, ha, hk, rfl, rfl, hrow, HR0, hrs, hb⟩ := hrel
          obtain ⟨sa, sc, hv, hsc, hscm⟩ := hrow.len
          subst hv
          by_cases hlt : acc.length < n
          · have hlt2 : (acc.length : Int) < (n : Int) := by omega
            have cG := fun w => get_any p (a : Int) w
            obtain ⟨d, hd⟩ : ∃ d, getAt p.data.toList (a : Int) = d := ⟨_, rfl⟩
            rw [hd] at cG
            have Hd2 : Hid (getAt p.data.toList (a : Int) = d) := hd
            clear hd
            obtain ⟨h, g, ok⟩ := d
            simp only [gotV] at cG
            obtain ⟨m, hm⟩ : ∃ m, m = n - (acc.length + 1) := ⟨_, rfl⟩
            have HRm : Hid (rdl p (m + 1) a acc = rdl p n j []) := by
              have : n - acc.length = m + 1 := by omega
              show _ = _
              rw [← this]
              exact HR0.out
            clear HR0
            cases ok with
            | false =>
              obtain ⟨rfl, rfl⟩ := get_no Hd2.out
              have HR : Hid (rdl p n j [] = (a, acc)) := by
                show _ = _
                rw [← HRm.out, rdl, Hd2.out, if_pos (Or.inl rfl)]
                rfl
              have HN : Hid (rd p = none) := by
                show _ = _
                rw [rd_of Hd.out HS.out hn HR.out, if_neg]
                rintro ⟨q, _⟩
                omega
              have hne : ((acc.length : Int) == (n : Int)) = false := by simp; omega
              clear HRm HR hm hlt
              have hbD : Below w.heap.size w wr.drew := hb.drew
              go_wp2_with fail
              refine (cG _).mono ?_
              rintro e w3 ⟨rfl, e3⟩
              rw [e3]
              clear e3 cG
              go_wp2_with fail
              refine wp_region_held_drew (S := (fun _ => True)) (by kernel_rfl) (trivial) (fun hHeld => ?_)
              refine takeD 0 97 (v := .bool false) rfl rfl (by kernel_rfl) (by kernel_rfl) (by kernel_rfl) (fun _ _ _ h => h) (Or.inl ⟨by rfl, by (intro w hSw; (try dsimp only at hSw); go_simp)⟩) hHeld ?_
              simp only [List.setIfInBounds_toArray, List.set_cons_zero, List.set_cons_succ]
              refine takeD 1 98 (v := .bool true) rfl rfl (by kernel_rfl) (by kernel_rfl) (by kernel_rfl) (fun _ _ _ h => h) (Or.inl ⟨by rfl, by (intro w hSw; (try dsimp only at hSw); go_simp)⟩) hHeld ?_
              simp only [List.setIfInBounds_toArray, List.set_cons_zero, List.set_cons_succ]
              refine takeD 2 99 (v := .bool true) rfl rfl (by kernel_rfl) (by kernel_rfl) (by kernel_rfl) (fun _ _ _ h => h) (Or.inl ⟨by rfl, by (intro w hSw; (try dsimp only at hSw); go_simp)⟩) hHeld ?_
              simp only [List.setIfInBounds_toArray, List.set_cons_zero, List.set_cons_succ]
              refine takeD 3 100 (v := undef) rfl rfl (by kernel_rfl) (by kernel_rfl) (by kernel_rfl) (fun _ _ _ h => h) (Or.inr ⟨by kernel_rfl, rfl⟩) hHeld ?_
              simp only [List.setIfInBounds_toArray, List.set_cons_zero, List.set_cons_succ]
              refine takeD 4 101 (v := undef) rfl rfl (by kernel_rfl) (by kernel_rfl) (by kernel_rfl) (fun _ _ _ h => h) (Or.inr ⟨by kernel_rfl, rfl⟩) hHeld ?_
              simp only [List.setIfInBounds_toArray, List.set_cons_zero, List.set_cons_succ]
              refine takeD 5 102 (v := undef) rfl rfl (by kernel_rfl) (by kernel_rfl) (by kernel_rfl) (fun _ _ _ h => h) (Or.inr ⟨by kernel_rfl, rfl⟩) hHeld ?_
              simp only [List.setIfInBounds_toArray, List.set_cons_zero, List.set_cons_succ]
              refine takeD 6 103 (v := .bool true) rfl rfl (by kernel_rfl) (by kernel_rfl) (by kernel_rfl) (fun _ _ _ h => h) (Or.inl ⟨by rfl, by (intro w hSw; (try dsimp only at hSw); go_simp)⟩) hHeld ?_
              simp only [List.setIfInBounds_toArray, List.set_cons_zero, List.set_cons_succ]
              refine takeD 7 104 (v := .bool true) rfl rfl (by kernel_rfl) (by kernel_rfl) (by kernel_rfl) (fun _ _ _ h => h) (Or.inl ⟨by rfl, by (intro w hSw; (try dsimp only at hSw); go_simp)⟩) hHeld ?_
              simp only [List.setIfInBounds_toArray, List.set_cons_zero, List.set_cons_succ]
              refine takeD 8 105 (v := undef) rfl rfl (by kernel_rfl) (by kernel_rfl) (by kernel_rfl) (fun _ _ _ h => h) (Or.inr ⟨by kernel_rfl, rfl⟩) hHeld ?_
              simp only [List.setIfInBounds_toArray, List.set_cons_zero, List.set_cons_succ]
              refine takeD 9 106 (v := undef) rfl rfl (by kernel_rfl) (by kernel_rfl) (by kernel_rfl) (fun _ _ _ h => h) (Or.inr ⟨by kernel_rfl, rfl⟩) hHeld ?_
              simp only [List.setIfInBounds_toArray, List.set_cons_zero, List.set_cons_succ]
              refine takeD 10 107 (v := undef) rfl rfl (by kernel_rfl) (by kernel_rfl) (by kernel_rfl) (fun _ _ _ h => h) (Or.inr ⟨by kernel_rfl, rfl⟩) hHeld ?_
              simp only [List.setIfInBounds_toArray, List.set_cons_zero, List.set_cons_succ]
              refine takeD 11 108 (v := undef) rfl rfl (by kernel_rfl) (by kernel_rfl) (by kernel_rfl) (fun _ _ _ h => h) (Or.inr ⟨by kernel_rfl, rfl⟩) hHeld ?_
              simp only [List.setIfInBounds_toArray, List.set_cons_zero, List.set_cons_succ]
              refine takeD 12 109 (v := undef) rfl rfl (by kernel_rfl) (by kernel_rfl) (by kernel_rfl) (fun _ _ _ h => h) (Or.inr ⟨by kernel_rfl, rfl⟩) hHeld ?_
              simp only [List.setIfInBounds_toArray, List.set_cons_zero, List.set_cons_succ]
              refine takeD 13 110 (v := undef) rfl rfl (by kernel_rfl) (by kernel_rfl) (by kernel_rfl) (fun _ _ _ h => h) (Or.inr ⟨by kernel_rfl, rfl⟩) hHeld ?_
              simp only [List.setIfInBounds_toArray, List.set_cons_zero, List.set_cons_succ]
              refine takeD 14 111 (v := undef) rfl rfl (by kernel_rfl) (by kernel_rfl) (by kernel_rfl) (fun _ _ _ h => h) (Or.inr ⟨by kernel_rfl, rfl⟩) hHeld ?_
              simp only [List.setIfInBounds_toArray, List.set_cons_zero, List.set_cons_succ]
              refine takeD 15 112 (v := undef) rfl rfl (by kernel_rfl) (by kernel_rfl) (by kernel_rfl) (fun _ _ _ h => h) (Or.inr ⟨by kernel_rfl, rfl⟩) hHeld ?_
              simp only [List.setIfInBounds_toArray, List.set_cons_zero, List.set_cons_succ]
              refine takeD 16 113 (v := undef) rfl rfl (by kernel_rfl) (by kernel_rfl) (by kernel_rfl) (fun _ _ _ h => h) (Or.inr ⟨by kernel_rfl, rfl⟩) hHeld ?_
              simp only [List.setIfInBounds_toArray, List.set_cons_zero, List.set_cons_succ]
              refine takeD 17 114 (v := .bool true) rfl rfl (by kernel_rfl) (by kernel_rfl) (by kernel_rfl) (fun _ _ _ h => h) (Or.inl ⟨by rfl, by (intro w hSw; (try dsimp only at hSw); go_simp)⟩) hHeld ?_
              simp only [List.setIfInBounds_toArray, List.set_cons_zero, List.set_cons_succ]
              refine wpAnyH_done (by kernel_rfl) ?_ _
              go_wp2_with fail
              rw [Exit.noGoto_ret]
              go_ret2
              exact ⟨_, by rw [HN.out]; rfl, by rw [HN.out]; exact rw_nil _ _, hbD⟩
            | true =>
              obtain ⟨hg, hh64, hg10⟩ := get_yes Hd2.out
              rw [show p.data.toList.length = p.size by simp] at hg
              obtain ⟨q, hq⟩ : ∃ q, q = a + g := ⟨_, rfl⟩
              have hqi : (a : Int) + (g : Int) = (q : Int) := by omega
              have hqle : q ≤ p.size := by omega
              have HQ : Hid (q = a + g) := hq
              clear hq hg
              by_cases h4 : 401 < h
              · have h42 : (401 : Int) < (h : Int) := by omega
                have HR : Hid (rdl p n j [] = (q, acc)) := by
                  show _ = _
                  rw [← HRm.out, rdl, Hd2.out, if_pos (Or.inr (Or.inl h4)), HQ.out]
                have HN : Hid (rd p = none) := by
                  show _ = _
                  rw [rd_of Hd.out HS.out hn HR.out, if_neg]
                  rintro ⟨q, _⟩
                  omega
                have hne : ((acc.length : Int) == (n : Int)) = false := by simp; omega
                clear HRm HR hm hlt
                have hbD : Below w.heap.size w wr.drew := hb.drew
                go_wp2_with fail
                refine (cG _).mono ?_
                rintro e w3 ⟨rfl, e3⟩
                rw [e3]
                clear e3 cG
                go_wp2_with fail
                refine wp_region_held_drew (S := (fun _ => True)) (by kernel_rfl) (trivial) (fun hHeld => ?_)
                refine takeD 0 97 (v := .bool false) rfl rfl (by kernel_rfl) (by kernel_rfl) (by kernel_rfl) (fun _ _ _ h => h) (Or.inl ⟨by rfl, by (intro w hSw; (try dsimp only at hSw); go_simp)⟩) hHeld ?_
                simp only [List.setIfInBounds_toArray, List.set_cons_zero, List.set_cons_succ]
                refine takeD 1 98 (v := .bool true) rfl rfl (by kernel_rfl) (by kernel_rfl) (by kernel_rfl) (fun _ _ _ h => h) (Or.inl ⟨by rfl, by (intro w hSw; (try dsimp only at hSw); go_simp)⟩) hHeld ?_
                simp only [List.setIfInBounds_toArray, List.set_cons_zero, List.set_cons_succ]
                refine takeD 2 99 (v := .bool true) rfl rfl (by kernel_rfl) (by kernel_rfl) (by kernel_rfl) (fun _ _ _ h => h) (Or.inl ⟨by rfl, by (intro w hSw; (try dsimp only at hSw); go_simp)⟩) hHeld ?_
                simp only [List.setIfInBounds_toArray, List.set_cons_zero, List.set_cons_succ]
                refine takeD 3 100 (v := undef) rfl rfl (by kernel_rfl) (by kernel_rfl) (by kernel_rfl) (fun _ _ _ h => h) (Or.inr ⟨by kernel_rfl, rfl⟩) hHeld ?_
                simp only [List.setIfInBounds_toArray, List.set_cons_zero, List.set_cons_succ]
                refine takeD 4 101 (v := undef) rfl rfl (by kernel_rfl) (by kernel_rfl) (by kernel_rfl) (fun _ _ _ h => h) (Or.inr ⟨by kernel_rfl, rfl⟩) hHeld ?_
                simp only [List.setIfInBounds_toArray, List.set_cons_zero, List.set_cons_succ]
                refine takeD 5 102 (v := undef) rfl rfl (by kernel_rfl) (by kernel_rfl) (by kernel_rfl) (fun _ _ _ h => h) (Or.inr ⟨by kernel_rfl, rfl⟩) hHeld ?_
                simp only [List.setIfInBounds_toArray, List.set_cons_zero, List.set_cons_succ]
                refine takeD 6 103 (v := .bool true) rfl rfl (by kernel_rfl) (by kernel_rfl) (by kernel_rfl) (fun _ _ _ h => h) (Or.inl ⟨by rfl, by (intro w hSw; (try dsimp only at hSw); go_simp)⟩) hHeld ?_
                simp only [List.setIfInBounds_toArray, List.set_cons_zero, List.set_cons_succ]
                refine takeD 7 104 (v := .bool true) rfl rfl (by kernel_rfl) (by kernel_rfl) (by kernel_rfl) (fun _ _ _ h => h) (Or.inl ⟨by rfl, by (intro w hSw; (try dsimp only at hSw); go_simp)⟩) hHeld ?_
                simp only [List.setIfInBounds_toArray, List.set_cons_zero, List.set_cons_succ]
                refine takeD 8 105 (v := undef) rfl rfl (by kernel_rfl) (by kernel_rfl) (by kernel_rfl) (fun _ _ _ h => h) (Or.inr ⟨by kernel_rfl, rfl⟩) hHeld ?_
                simp only [List.setIfInBounds_toArray, List.set_cons_zero, List.set_cons_succ]
                refine takeD 9 106 (v := undef) rfl rfl (by kernel_rfl) (by kernel_rfl) (by kernel_rfl) (fun _ _ _ h => h) (Or.inr ⟨by kernel_rfl, rfl⟩) hHeld ?_
                simp only [List.setIfInBounds_toArray, List.set_cons_zero, List.set_cons_succ]
                refine takeD 10 107 (v := undef) rfl rfl (by kernel_rfl) (by kernel_rfl) (by kernel_rfl) (fun _ _ _ h => h) (Or.inr ⟨by kernel_rfl, rfl⟩) hHeld ?_
                simp only [List.setIfInBounds_toArray, List.set_cons_zero, List.set_cons_succ]
                refine takeD 11 108 (v := undef) rfl rfl (by kernel_rfl) (by kernel_rfl) (by kernel_rfl) (fun _ _ _ h => h) (Or.inr ⟨by kernel_rfl, rfl⟩) hHeld ?_
                simp only [List.setIfInBounds_toArray, List.set_cons_zero, List.set_cons_succ]
                refine takeD 12 109 (v := undef) rfl rfl (by kernel_rfl) (by kernel_rfl) (by kernel_rfl) (fun _ _ _ h => h) (Or.inr ⟨by kernel_rfl, rfl⟩) hHeld ?_
                simp only [List.setIfInBounds_toArray, List.set_cons_zero, List.set_cons_succ]
                refine takeD 13 110 (v := undef) rfl rfl (by kernel_rfl) (by kernel_rfl) (by kernel_rfl) (fun _ _ _ h => h) (Or.inr ⟨by kernel_rfl, rfl⟩) hHeld ?_
                simp only [List.setIfInBounds_toArray, List.set_cons_zero, List.set_cons_succ]
                refine takeD 14 111 (v := undef) rfl rfl (by kernel_rfl) (by kernel_rfl) (by kernel_rfl) (fun _ _ _ h => h) (Or.inr ⟨by kernel_rfl, rfl⟩) hHeld ?_
                simp only [List.setIfInBounds_toArray, List.set_cons_zero, List.set_cons_succ]
                refine takeD 15 112 (v := undef) rfl rfl (by kernel_rfl) (by kernel_rfl) (by kernel_rfl) (fun _ _ _ h => h) (Or.inr ⟨by kernel_rfl, rfl⟩) hHeld ?_
                simp only [List.setIfInBounds_toArray, List.set_cons_zero, List.set_cons_succ]
                refine takeD 16 113 (v := undef) rfl rfl (by kernel_rfl) (by kernel_rfl) (by kernel_rfl) (fun _ _ _ h => h) (Or.inr ⟨by kernel_rfl, rfl⟩) hHeld ?_
                simp only [List.setIfInBounds_toArray, List.set_cons_zero, List.set_cons_succ]
                refine takeD 17 114 (v := .bool true) rfl rfl (by kernel_rfl) (by kernel_rfl) (by kernel_rfl) (fun _ _ _ h => h) (Or.inl ⟨by rfl, by (intro w hSw; (try dsimp only at hSw); go_simp)⟩) hHeld ?_
                simp only [List.setIfInBounds_toArray, List.set_cons_zero, List.set_cons_succ]
                refine wpAnyH_done (by kernel_rfl) ?_ _
                go_wp2_with fail
                rw [Exit.noGoto_ret]
                go_ret2
                exact ⟨_, by rw [HN.out]; rfl, by rw [HN.out]; exact rw_nil _ _, hbD⟩
              · have h42 : ¬ (401 : Int) < (h : Int) := by omega
                have hw64 : IntKind.i64.wrap (h : Int) = (h : Int) := by rw [IntKind.wrap_i64]; omega
                by_cases h5 : p.size + 1 < q + h
                · have h52 : (p.size : Int) < (q : Int) + (h : Int) - 1 := by omega
                  have HR : Hid (rdl p n j [] = (q, acc)) := by
                    show _ = _
                    rw [← HRm.out, rdl, Hd2.out, if_pos (Or.inr (Or.inr (by rw [← HQ.out]; exact h5))), HQ.out]
                  have HN : Hid (rd p = none) := by
                    show _ = _
                    rw [rd_of Hd.out HS.out hn HR.out, if_neg]
                    rintro ⟨q, _⟩
                    omega
                  have hne : ((acc.length : Int) == (n : Int)) = false := by simp; omega
                  clear HRm HR hm hlt
                  have hbD : Below w.heap.size w wr.drew := hb.drew
                  go_wp2_with fail
                  refine (cG _).mono ?_
                  rintro e w3 ⟨rfl, e3⟩
                  rw [e3]
                  clear e3 cG
                  go_wp2_with fail
                  refine wp_region_held_drew (S := (fun _ => True)) (by kernel_rfl) (trivial) (fun hHeld => ?_)
                  refine takeD 0 97 (v := .bool false) rfl rfl (by kernel_rfl) (by kernel_rfl) (by kernel_rfl) (fun _ _ _ h => h) (Or.inl ⟨by rfl, by (intro w hSw; (try dsimp only at hSw); go_simp)⟩) hHeld ?_
                  simp only [List.setIfInBounds_toArray, List.set_cons_zero, List.set_cons_succ]
                  refine takeD 1 98 (v := .bool true) rfl rfl (by kernel_rfl) (by kernel_rfl) (by kernel_rfl) (fun _ _ _ h => h) (Or.inl ⟨by rfl, by (intro w hSw; (try dsimp only at hSw); go_simp)⟩) hHeld ?_
                  simp only [List.setIfInBounds_toArray, List.set_cons_zero, List.set_cons_succ]
                  refine takeD 2 99 (v := .bool true) rfl rfl (by kernel_rfl) (by kernel_rfl) (by kernel_rfl) (fun _ _ _ h => h) (Or.inl ⟨by rfl, by (intro w hSw; (try dsimp only at hSw); go_simp)⟩) hHeld ?_
                  simp only [List.setIfInBounds_toArray, List.set_cons_zero, List.set_cons_succ]
                  refine takeD 3 100 (v := undef) rfl rfl (by kernel_rfl) (by kernel_rfl) (by kernel_rfl) (fun _ _ _ h => h) (Or.inr ⟨by kernel_rfl, rfl⟩) hHeld ?_
                  simp only [List.setIfInBounds_toArray, List.set_cons_zero, List.set_cons_succ]
                  refine takeD 4 101 (v := undef) rfl rfl (by kernel_rfl) (by kernel_rfl) (by kernel_rfl) (fun _ _ _ h => h) (Or.inr ⟨by kernel_rfl, rfl⟩) hHeld ?_
                  simp only [List.setIfInBounds_toArray, List.set_cons_zero, List.set_cons_succ]
                  refine takeD 5 102 (v := undef) rfl rfl (by kernel_rfl) (by kernel_rfl) (by kernel_rfl) (fun _ _ _ h => h) (Or.inr ⟨by kernel_rfl, rfl⟩) hHeld ?_
                  simp only [List.setIfInBounds_toArray, List.set_cons_zero, List.set_cons_succ]
                  refine takeD 6 103 (v := .bool true) rfl rfl (by kernel_rfl) (by kernel_rfl) (by kernel_rfl) (fun _ _ _ h => h) (Or.inl ⟨by rfl, by (intro w hSw; (try dsimp only at hSw); go_simp)⟩) hHeld ?_
                  simp only [List.setIfInBounds_toArray, List.set_cons_zero, List.set_cons_succ]
                  refine takeD 7 104 (v := .bool true) rfl rfl (by kernel_rfl) (by kernel_rfl) (by kernel_rfl) (fun _ _ _ h => h) (Or.inl ⟨by rfl, by (intro w hSw; (try dsimp only at hSw); go_simp)⟩) hHeld ?_
                  simp only [List.setIfInBounds_toArray, List.set_cons_zero, List.set_cons_succ]
                  refine takeD 8 105 (v := undef) rfl rfl (by kernel_rfl) (by kernel_rfl) (by kernel_rfl) (fun _ _ _ h => h) (Or.inr ⟨by kernel_rfl, rfl⟩) hHeld ?_
                  simp only [List.setIfInBounds_toArray, List.set_cons_zero, List.set_cons_succ]
                  refine takeD 9 106 (v := undef) rfl rfl (by kernel_rfl) (by kernel_rfl) (by kernel_rfl) (fun _ _ _ h => h) (Or.inr ⟨by kernel_rfl, rfl⟩) hHeld ?_
                  simp only [List.setIfInBounds_toArray, List.set_cons_zero, List.set_cons_succ]
                  refine takeD 10 107 (v := undef) rfl rfl (by kernel_rfl) (by kernel_rfl) (by kernel_rfl) (fun _ _ _ h => h) (Or.inr ⟨by kernel_rfl, rfl⟩) hHeld ?_
                  simp only [List.setIfInBounds_toArray, List.set_cons_zero, List.set_cons_succ]
                  refine takeD 11 108 (v := undef) rfl rfl (by kernel_rfl) (by kernel_rfl) (by kernel_rfl) (fun _ _ _ h => h) (Or.inr ⟨by kernel_rfl, rfl⟩) hHeld ?_
                  simp only [List.setIfInBounds_toArray, List.set_cons_zero, List.set_cons_succ]
                  refine takeD 12 109 (v := undef) rfl rfl (by kernel_rfl) (by kernel_rfl) (by kernel_rfl) (fun _ _ _ h => h) (Or.inr ⟨by kernel_rfl, rfl⟩) hHeld ?_
                  simp only [List.setIfInBounds_toArray, List.set_cons_zero, List.set_cons_succ]
                  refine takeD 13 110 (v := undef) rfl rfl (by kernel_rfl) (by kernel_rfl) (by kernel_rfl) (fun _ _ _ h => h) (Or.inr ⟨by kernel_rfl, rfl⟩) hHeld ?_
                  simp only [List.setIfInBounds_toArray, List.set_cons_zero, List.set_cons_succ]
                  refine takeD 14 111 (v := undef) rfl rfl (by kernel_rfl) (by kernel_rfl) (by kernel_rfl) (fun _ _ _ h => h) (Or.inr ⟨by kernel_rfl, rfl⟩) hHeld ?_
                  simp only [List.setIfInBounds_toArray, List.set_cons_zero, List.set_cons_succ]
                  refine takeD 15 112 (v := undef) rfl rfl (by kernel_rfl) (by kernel_rfl) (by kernel_rfl) (fun _ _ _ h => h) (Or.inr ⟨by kernel_rfl, rfl⟩) hHeld ?_
                  simp only [List.setIfInBounds_toArray, List.set_cons_zero, List.set_cons_succ]
                  refine takeD 16 113 (v := undef) rfl rfl (by kernel_rfl) (by kernel_rfl) (by kernel_rfl) (fun _ _ _ h => h) (Or.inr ⟨by kernel_rfl, rfl⟩) hHeld ?_
                  simp only [List.setIfInBounds_toArray, List.set_cons_zero, List.set_cons_succ]
                  refine takeD 17 114 (v := .bool true) rfl rfl (by kernel_rfl) (by kernel_rfl) (by kernel_rfl) (fun _ _ _ h => h) (Or.inl ⟨by rfl, by (intro w hSw; (try dsimp only at hSw); go_simp)⟩) hHeld ?_
                  simp only [List.setIfInBounds_toArray, List.set_cons_zero, List.set_cons_succ]
                  refine wpAnyH_done (by kernel_rfl) ?_ _
                  go_wp2_with fail
                  rw [Exit.noGoto_ret]
                  go_ret2
                  exact ⟨_, by rw [HN.out]; rfl, by rw [HN.out]; exact rw_nil _ _, hbD⟩
                · have h52 : ¬ (p.size : Int) < (q : Int) + (h : Int) - 1 := by omega
                  have hnot : ¬ ((true = false) ∨ 401 < h ∨ p.size + 1 < a + g + h) := by
                    rintro (e | e | e)
                    · cases e
                    · exact h4 e
                    · have := HQ.out; omega
                  by_cases h0 : h = 0
                  · subst h0
                    have HR : Hid (rdl p (n - (acc ++ [none]).length) q (acc ++ [none]) = rdl p n j []) := by
                      show _ = _
                      rw [List.length_append, List.length_singleton, ← hm, ← HRm.out, rdl, Hd2.out, if_neg hnot, if_pos rfl, HQ.out]
                    clear HRm hm
                    go_wp2_with fail
                    refine (cG _).mono ?_
                    rintro e w3 ⟨rfl, e3⟩
                    rw [e3]
                    clear e3 cG
                    have hr3 := hrow.below' (below_alloc1 wr (.cells #[.bool false, .string ⟨#[]⟩] 161))
                    have hsz := hb.size
                    go_wp2_with (at_builtin; refine wpList_append_cf _ rfl _ _ rfl w.heap.size _ acc rfl hr3 wr.heap.size none rfl (by simp; rfl) (by simp; rfl) (by omega) (by simp; omega) ?_; intro v' w' hrow' hfr hnew)
                    go_roundw
                    case rel =>
                      refine ⟨q, acc ++ [none], by omega, by simp; omega, rfl, by simp, hrow', HR, ?_, ?_⟩
                      · intro r hr
                        simp at hr
                        exact hrs r hr
                      · exact hfr.below (below2 hb (below_alloc1 _ _)) (by simp; omega) (fun k e => (hrow.blk e).1)
                    case measure => simp [intOf]; omega
                  · have h02 : ((h : Int) == 0) = false := by simp; omega
                    obtain ⟨t, ht⟩ : ∃ t, t = q + h - 1 := ⟨_, rfl⟩
                    have hti : (q : Int) + (h : Int) - 1 = (t : Int) := by omega
                    have hts : t ≤ p.size := by omega
                    have hqt : q ≤ t := by omega
                    have HT : Hid (t = q + h - 1) := ht
                    have HR : Hid (rdl p (n - (acc ++ [some (p.extract q t)]).length) t (acc ++ [some (p.extract q t)]) = rdl p n j []) := by
                      show _ = _
                      rw [List.length_append, List.length_singleton, ← hm, ← HRm.out, rdl, Hd2.out, if_neg hnot, if_neg h0, HT.out, HQ.out]
                    have hsz4 : (p.extract q t).size ≤ 400 := by simp; omega
                    clear HRm hm ht
                    go_wp2_with fail
                    refine (cG _).mono ?_
                    rintro e w3 ⟨rfl, e3⟩
                    rw [e3]
                    clear e3 cG
                    generalize hX : p.extract q t = X at *
                    have hr3 := hrow.below' (below_alloc1 wr (.cells #[.bool true, .string X] 161))
                    have hsz := hb.size
                    go_wp2_with (at_builtin; refine wpList_append_cf _ rfl _ _ rfl w.heap.size _ acc rfl hr3 wr.heap.size (some X) rfl (by simp; rfl) (by simp; rfl) (by omega) (by simp; omega) ?_; intro v' w' hrow' hfr hnew)
                    go_roundw
                    case rel =>
                      refine ⟨t, acc ++ [some X], by omega, by simp; omega, rfl, by simp, hrow', HR, ?_, ?_⟩
                      · intro r hr
                        simp at hr
                        rcases hr with hr | hr
                        · exact hrs r hr
                        · rw [hr]; exact hsz4
                      · exact hfr.below (below2 hb (below_alloc1 _ _)) (by simp; omega) (fun k e => (hrow.blk e).1)
                    case measure => simp [intOf]; omega
          · have hln : acc.length = n := by omega
            have HR : Hid (rdl p n j [] = (a, acc)) := by
              show _ = _
              rw [← HR0.out, hln, Nat.sub_self, rdl]
            clear HR0
            have hrd := rd_of Hd.out HS.out hn HR.out
            have hlt2 : ¬ (acc.length : Int) < (n : Int) := by omega
            have he1 : ((acc.length : Int) == (n : Int)) = true := by simp; omega
            have HL : Hid (acc.length = n) := hln
            have hal : acc.length ≤ 127 := by omega
            clear hln hlt hk
            have cT := trim_any sa sc acc w.heap.size wr hrow (by omega) hsc
            have hwr : Rw 161 cf wr.drew w.heap.size (.slice sa acc.length sc) acc := hrow.kept (fun _ _ => rfl)
            have hbD : Below w.heap.size w wr.drew := hb.drew
            have cR := room_any sa sc acc w.heap.size wr.drew hwr (by omega) hrs (room acc) rfl
            by_cases hT : (trimL acc).length = acc.length
            · have hT2 : (((trimL acc).length : Int) == (acc.length : Int)) = true := by simp; omega
              generalize hTl : (trimL acc).length = tl at *
              by_cases hR : room acc < 0
              · have HN : Hid (rd p = none) := by
                  show _ = _
                  rw [hrd, if_neg]
                  rintro ⟨_, _, q, _⟩
                  omega
                generalize room acc = R at *
                clear hrd HR hTl
                go_wp2_with fail
                refine cT.mono ?_
                rintro e w3 ⟨rfl, e3⟩
                rw [e3]
                clear e3 cT
                go_wp2_with fail
                refine wp_region_held_drew (S := (fun _ => True)) (by kernel_rfl) (trivial) (fun hHeld => ?_)
                refine takeD 0 97 (v := .bool true) rfl rfl (by kernel_rfl) (by kernel_rfl) (by kernel_rfl) (fun _ _ _ h => h) (Or.inl ⟨by rfl, by (intro w hSw; (try dsimp only at hSw); go_simp)⟩) hHeld ?_
                simp only [List.setIfInBounds_toArray, List.set_cons_zero, List.set_cons_succ]
                refine takeD 1 98 (v := .bool false) rfl rfl (by kernel_rfl) (by kernel_rfl) (by kernel_rfl) (fun _ _ _ h => h) (Or.inl ⟨by rfl, by (intro w hSw; (try dsimp only at hSw); go_simp)⟩) hHeld ?_
                simp only [List.setIfInBounds_toArray, List.set_cons_zero, List.set_cons_succ]
                refine takeD 2 99 (v := .bool false) rfl rfl (by kernel_rfl) (by kernel_rfl) (by kernel_rfl) (fun _ _ _ h => h) (Or.inl ⟨by rfl, by (intro w hSw; (try dsimp only at hSw); go_simp)⟩) hHeld ?_
                simp only [List.setIfInBounds_toArray, List.set_cons_zero, List.set_cons_succ]
                refine takeD 3 100 (v := .slice sa acc.length sc) rfl rfl (by kernel_rfl) (by kernel_rfl) (by kernel_rfl) (fun _ _ _ h => h) (Or.inl ⟨by rfl, by (intro w hSw; (try dsimp only at hSw); go_simp)⟩) hHeld ?_
                simp only [List.setIfInBounds_toArray, List.set_cons_zero, List.set_cons_succ]
                refine wpAnyH_ready (rs := [4]) (by kernel_rfl) (by simp) ?_
                refine AllReadyH.cons rfl (fun K hK => ?_) AllReadyH.nil
                go_simp
                refine (cR).mono ?_
                rintro e wR ⟨rfl, bR⟩
                go_simp
                refine hK.out _ _ (trivial) (fun hHeld => ?_)
                clear hK K
                refine takeD 5 102 (v := .bool true) rfl rfl (by kernel_rfl) (by kernel_rfl) (by kernel_rfl) (fun _ _ _ h => h) (Or.inl ⟨by rfl, by (intro w hSw; (try dsimp only at hSw); go_simp)⟩) hHeld ?_
                simp only [List.setIfInBounds_toArray, List.set_cons_zero, List.set_cons_succ]
                refine takeD 6 103 (v := .bool true) rfl rfl (by kernel_rfl) (by kernel_rfl) (by kernel_rfl) (fun _ _ _ h => h) (Or.inl ⟨by rfl, by (intro w hSw; (try dsimp only at hSw); go_simp)⟩) hHeld ?_
                simp only [List.setIfInBounds_toArray, List.set_cons_zero, List.set_cons_succ]
                refine takeD 7 104 (v := .bool true) rfl rfl (by kernel_rfl) (by kernel_rfl) (by kernel_rfl) (fun _ _ _ h => h) (Or.inl ⟨by rfl, by (intro w hSw; (try dsimp only at hSw); go_simp)⟩) hHeld ?_
                simp only [List.setIfInBounds_toArray, List.set_cons_zero, List.set_cons_succ]
                refine takeD 8 105 (v := undef) rfl rfl (by kernel_rfl) (by kernel_rfl) (by kernel_rfl) (fun _ _ _ h => h) (Or.inr ⟨by kernel_rfl, rfl⟩) hHeld ?_
                simp only [List.setIfInBounds_toArray, List.set_cons_zero, List.set_cons_succ]
                refine takeD 9 106 (v := undef) rfl rfl (by kernel_rfl) (by kernel_rfl) (by kernel_rfl) (fun _ _ _ h => h) (Or.inr ⟨by kernel_rfl, rfl⟩) hHeld ?_
                simp only [List.setIfInBounds_toArray, List.set_cons_zero, List.set_cons_succ]
                refine takeD 10 107 (v := undef) rfl rfl (by kernel_rfl) (by kernel_rfl) (by kernel_rfl) (fun _ _ _ h => h) (Or.inr ⟨by kernel_rfl, rfl⟩) hHeld ?_
                simp only [List.setIfInBounds_toArray, List.set_cons_zero, List.set_cons_succ]
                refine takeD 11 108 (v := undef) rfl rfl (by kernel_rfl) (by kernel_rfl) (by kernel_rfl) (fun _ _ _ h => h) (Or.inr ⟨by kernel_rfl, rfl⟩) hHeld ?_
                simp only [List.setIfInBounds_toArray, List.set_cons_zero, List.set_cons_succ]
                refine takeD 12 109 (v := undef) rfl rfl (by kernel_rfl) (by kernel_rfl) (by kernel_rfl) (fun _ _ _ h => h) (Or.inr ⟨by kernel_rfl, rfl⟩) hHeld ?_
                simp only [List.setIfInBounds_toArray, List.set_cons_zero, List.set_cons_succ]
                refine takeD 13 110 (v := undef) rfl rfl (by kernel_rfl) (by kernel_rfl) (by kernel_rfl) (fun _ _ _ h => h) (Or.inr ⟨by kernel_rfl, rfl⟩) hHeld ?_
                simp only [List.setIfInBounds_toArray, List.set_cons_zero, List.set_cons_succ]
                refine takeD 14 111 (v := undef) rfl rfl (by kernel_rfl) (by kernel_rfl) (by kernel_rfl) (fun _ _ _ h => h) (Or.inr ⟨by kernel_rfl, rfl⟩) hHeld ?_
                simp only [List.setIfInBounds_toArray, List.set_cons_zero, List.set_cons_succ]
                refine takeD 15 112 (v := undef) rfl rfl (by kernel_rfl) (by kernel_rfl) (by kernel_rfl) (fun _ _ _ h => h) (Or.inr ⟨by kernel_rfl, rfl⟩) hHeld ?_
                simp only [List.setIfInBounds_toArray, List.set_cons_zero, List.set_cons_succ]
                refine takeD 16 113 (v := undef) rfl rfl (by kernel_rfl) (by kernel_rfl) (by kernel_rfl) (fun _ _ _ h => h) (Or.inr ⟨by kernel_rfl, rfl⟩) hHeld ?_
                simp only [List.setIfInBounds_toArray, List.set_cons_zero, List.set_cons_succ]
                refine takeD 17 114 (v := .bool true) rfl rfl (by kernel_rfl) (by kernel_rfl) (by kernel_rfl) (fun _ _ _ h => h) (Or.inl ⟨by rfl, by (intro w hSw; (try dsimp only at hSw); go_simp)⟩) hHeld ?_
                simp only [List.setIfInBounds_toArray, List.set_cons_zero, List.set_cons_succ]
                refine wpAnyH_done (by kernel_rfl) ?_ _
                go_wp2_with fail
                rw [Exit.noGoto_ret]
                go_ret2
                exact ⟨_, by rw [HN.out]; rfl, by rw [HN.out]; exact rw_nil _ _, (below2 hbD bR)⟩
              · obtain ⟨z, hz⟩ : ∃ z, z = p.size - a := ⟨_, rfl⟩
                have hzi : (p.size : Int) - (a : Int) = (z : Int) := by omega
                have hzw : IntKind.i64.wrap (z : Int) = (z : Int) := by rw [IntKind.wrap_i64]; omega
                have HZ : Hid (z = p.size - a) := hz
                clear hz
                have cZ := fun w => zeros_any z w (by have := HZ.out; omega)
                by_cases hE : p.extract a p.size = ba (List.replicate z 0)
                · have HN : Hid (rd p = some acc) := by
                    show _ = _
                    rw [hrd, if_pos ⟨HL.out, by omega, by omega, by rw [← HZ.out]; exact hE⟩]
                  generalize room acc = R at *
                  generalize ba (List.replicate z 0) = Z at *
                  subst hE
                  clear hrd HR hTl
                  go_wp2_with fail
                  refine cT.mono ?_
                  rintro e w3 ⟨rfl, e3⟩
                  rw [e3]
                  clear e3 cT
                  go_wp2_with fail
                  refine wp_region_held_drew (S := (fun _ => True)) (by kernel_rfl) (trivial) (fun hHeld => ?_)
                  refine takeD 0 97 (v := .bool true) rfl rfl (by kernel_rfl) (by kernel_rfl) (by kernel_rfl) (fun _ _ _ h => h) (Or.inl ⟨by rfl, by (intro w hSw; (try dsimp only at hSw); go_simp)⟩) hHeld ?_
                  simp only [List.setIfInBounds_toArray, List.set_cons_zero, List.set_cons_succ]
                  refine takeD 1 98 (v := .bool false) rfl rfl (by kernel_rfl) (by kernel_rfl) (by kernel_rfl) (fun _ _ _ h => h) (Or.inl ⟨by rfl, by (intro w hSw; (try dsimp only at hSw); go_simp)⟩) hHeld ?_
                  simp only [List.setIfInBounds_toArray, List.set_cons_zero, List.set_cons_succ]
                  refine takeD 2 99 (v := .bool false) rfl rfl (by kernel_rfl) (by kernel_rfl) (by kernel_rfl) (fun _ _ _ h => h) (Or.inl ⟨by rfl, by (intro w hSw; (try dsimp only at hSw); go_simp)⟩) hHeld ?_
                  simp only [List.setIfInBounds_toArray, List.set_cons_zero, List.set_cons_succ]
                  refine takeD 3 100 (v := .slice sa acc.length sc) rfl rfl (by kernel_rfl) (by kernel_rfl) (by kernel_rfl) (fun _ _ _ h => h) (Or.inl ⟨by rfl, by (intro w hSw; (try dsimp only at hSw); go_simp)⟩) hHeld ?_
                  simp only [List.setIfInBounds_toArray, List.set_cons_zero, List.set_cons_succ]
                  refine wpAnyH_ready (rs := [4]) (by kernel_rfl) (by simp) ?_
                  refine AllReadyH.cons rfl (fun K hK => ?_) AllReadyH.nil
                  go_simp
                  refine (cR).mono ?_
                  rintro e wR ⟨rfl, bR⟩
                  go_simp
                  refine hK.out _ _ (trivial) (fun hHeld => ?_)
                  clear hK K
                  refine takeD 5 102 (v := .bool false) rfl rfl (by kernel_rfl) (by kernel_rfl) (by kernel_rfl) (fun _ _ _ h => h) (Or.inl ⟨by rfl, by (intro w hSw; (try dsimp only at hSw); go_simp)⟩) hHeld ?_
                  simp only [List.setIfInBounds_toArray, List.set_cons_zero, List.set_cons_succ]
                  refine takeD 6 103 (v := .bool false) rfl rfl (by kernel_rfl) (by kernel_rfl) (by kernel_rfl) (fun _ _ _ h => h) (Or.inl ⟨by rfl, by (intro w hSw; (try dsimp only at hSw); go_simp)⟩) hHeld ?_
                  simp only [List.setIfInBounds_toArray, List.set_cons_zero, List.set_cons_succ]
                  refine takeD 7 104 (v := .bool false) rfl rfl (by kernel_rfl) (by kernel_rfl) (by kernel_rfl) (fun _ _ _ h => h) (Or.inl ⟨by rfl, by (intro w hSw; (try dsimp only at hSw); go_simp)⟩) hHeld ?_
                  simp only [List.setIfInBounds_toArray, List.set_cons_zero, List.set_cons_succ]
                  refine takeD 8 105 (v := .string p) rfl rfl (by kernel_rfl) (by kernel_rfl) (by kernel_rfl) (fun _ _ _ h => h) (Or.inl ⟨by rfl, by (intro w hSw; (try dsimp only at hSw); go_simp)⟩) hHeld ?_
                  simp only [List.setIfInBounds_toArray, List.set_cons_zero, List.set_cons_succ]
                  refine takeD 9 106 (v := .int .i64 (a : Int)) rfl rfl (by kernel_rfl) (by kernel_rfl) (by kernel_rfl) (fun _ _ _ h => h) (Or.inl ⟨by rfl, by (intro w hSw; (try dsimp only at hSw); go_simp)⟩) hHeld ?_
                  simp only [List.setIfInBounds_toArray, List.set_cons_zero, List.set_cons_succ]
                  refine takeD 10 107 (v := .string (p.extract a p.size)) rfl rfl (by kernel_rfl) (by kernel_rfl) (by kernel_rfl) (fun _ _ _ h => h) (Or.inl ⟨by rfl, by (intro w hSw; (try dsimp only at hSw); go_simp)⟩) hHeld ?_
                  simp only [List.setIfInBounds_toArray, List.set_cons_zero, List.set_cons_succ]
                  refine takeD 11 108 (v := .string p) rfl rfl (by kernel_rfl) (by kernel_rfl) (by kernel_rfl) (fun _ _ _ h => h) (Or.inl ⟨by rfl, by (intro w hSw; (try dsimp only at hSw); go_simp)⟩) hHeld ?_
                  simp only [List.setIfInBounds_toArray, List.set_cons_zero, List.set_cons_succ]
                  refine takeD 12 109 (v := .int .i64 (p.size : Int)) rfl rfl (by kernel_rfl) (by kernel_rfl) (by kernel_rfl) (fun _ _ _ h => h) (Or.inl ⟨by rfl, by (intro w hSw; (try dsimp only at hSw); go_simp)⟩) hHeld ?_
                  simp only [List.setIfInBounds_toArray, List.set_cons_zero, List.set_cons_succ]
                  refine takeD 13 110 (v := .int .i64 (a : Int)) rfl rfl (by kernel_rfl) (by kernel_rfl) (by kernel_rfl) (fun _ _ _ h => h) (Or.inl ⟨by rfl, by (intro w hSw; (try dsimp only at hSw); go_simp)⟩) hHeld ?_
                  simp only [List.setIfInBounds_toArray, List.set_cons_zero, List.set_cons_succ]
                  refine takeD 14 111 (v := .int .i64 (z : Int)) rfl rfl (by kernel_rfl) (by kernel_rfl) (by kernel_rfl) (fun _ _ _ h => h) (Or.inl ⟨by rfl, by (intro w hSw; (try dsimp only at hSw); go_simp)⟩) hHeld ?_
                  simp only [List.setIfInBounds_toArray, List.set_cons_zero, List.set_cons_succ]
                  refine wpAnyH_ready (rs := [15]) (by kernel_rfl) (by simp) ?_
                  refine AllReadyH.cons rfl (fun K hK => ?_) AllReadyH.nil
                  go_simp
                  refine (cZ _).mono ?_
                  rintro e wZ ⟨rfl, bZ⟩
                  go_simp
                  refine hK.out _ _ (trivial) (fun hHeld => ?_)
                  clear hK K
                  refine takeD 16 113 (v := .bool false) rfl rfl (by kernel_rfl) (by kernel_rfl) (by kernel_rfl) (fun _ _ _ h => h) (Or.inl ⟨by rfl, by (intro w hSw; (try dsimp only at hSw); go_simp)⟩) hHeld ?_
                  simp only [List.setIfInBounds_toArray, List.set_cons_zero, List.set_cons_succ]
                  refine takeD 17 114 (v := .bool false) rfl rfl (by kernel_rfl) (by kernel_rfl) (by kernel_rfl) (fun _ _ _ h => h) (Or.inl ⟨by rfl, by (intro w hSw; (try dsimp only at hSw); go_simp)⟩) hHeld ?_
                  simp only [List.setIfInBounds_toArray, List.set_cons_zero, List.set_cons_succ]
                  refine wpAnyH_done (by kernel_rfl) ?_ _
                  go_wp2_with fail
                  rw [Exit.noGoto_ret]
                  go_ret2
                  exact ⟨_, by rw [HN.out]; rfl, by rw [HN.out]; exact hrow.below' (below2 (below_drew _) (below2 bR bZ)), below2 hbD (below2 bR bZ)⟩
                · have HN : Hid (rd p = none) := by
                    show _ = _
                    rw [hrd, if_neg]
                    rintro ⟨_, _, _, q⟩
                    rw [← HZ.out] at q
                    exact hE q
                  have hne := bytes_ne hE
                  generalize room acc = R at *
                  generalize ba (List.replicate z 0) = Z at *
                  clear hrd HR hTl hE
                  go_wp2_with fail
                  refine cT.mono ?_
                  rintro e w3 ⟨rfl, e3⟩
                  rw [e3]
                  clear e3 cT
                  go_wp2_with fail
                  refine wp_region_held_drew (S := (fun _ => True)) (by kernel_rfl) (trivial) (fun hHeld => ?_)
                  refine takeD 0 97 (v := .bool true) rfl rfl (by kernel_rfl) (by kernel_rfl) (by kernel_rfl) (fun _ _ _ h => h) (Or.inl ⟨by rfl, by (intro w hSw; (try dsimp only at hSw); go_simp)⟩) hHeld ?_
                  simp only [List.setIfInBounds_toArray, List.set_cons_zero, List.set_cons_succ]
                  refine takeD 1 98 (v := .bool false) rfl rfl (by kernel_rfl) (by kernel_rfl) (by kernel_rfl) (fun _ _ _ h => h) (Or.inl ⟨by rfl, by (intro w hSw; (try dsimp only at hSw); go_simp)⟩) hHeld ?_
                  simp only [List.setIfInBounds_toArray, List.set_cons_zero, List.set_cons_succ]
                  refine takeD 2 99 (v := .bool false) rfl rfl (by kernel_rfl) (by kernel_rfl) (by kernel_rfl) (fun _ _ _ h => h) (Or.inl ⟨by rfl, by (intro w hSw; (try dsimp only at hSw); go_simp)⟩) hHeld ?_
                  simp only [List.setIfInBounds_toArray, List.set_cons_zero, List.set_cons_succ]
                  refine takeD 3 100 (v := .slice sa acc.length sc) rfl rfl (by kernel_rfl) (by kernel_rfl) (by kernel_rfl) (fun _ _ _ h => h) (Or.inl ⟨by rfl, by (intro w hSw; (try dsimp only at hSw); go_simp)⟩) hHeld ?_
                  simp only [List.setIfInBounds_toArray, List.set_cons_zero, List.set_cons_succ]
                  refine wpAnyH_ready (rs := [4]) (by kernel_rfl) (by simp) ?_
                  refine AllReadyH.cons rfl (fun K hK => ?_) AllReadyH.nil
                  go_simp
                  refine (cR).mono ?_
                  rintro e wR ⟨rfl, bR⟩
                  go_simp
                  refine hK.out _ _ (trivial) (fun hHeld => ?_)
                  clear hK K
                  refine takeD 5 102 (v := .bool false) rfl rfl (by kernel_rfl) (by kernel_rfl) (by kernel_rfl) (fun _ _ _ h => h) (Or.inl ⟨by rfl, by (intro w hSw; (try dsimp only at hSw); go_simp)⟩) hHeld ?_
                  simp only [List.setIfInBounds_toArray, List.set_cons_zero, List.set_cons_succ]
                  refine takeD 6 103 (v := .bool false) rfl rfl (by kernel_rfl) (by kernel_rfl) (by kernel_rfl) (fun _ _ _ h => h) (Or.inl ⟨by rfl, by (intro w hSw; (try dsimp only at hSw); go_simp)⟩) hHeld ?_
                  simp only [List.setIfInBounds_toArray, List.set_cons_zero, List.set_cons_succ]
                  refine takeD 7 104 (v := .bool false) rfl rfl (by kernel_rfl) (by kernel_rfl) (by kernel_rfl) (fun _ _ _ h => h) (Or.inl ⟨by rfl, by (intro w hSw; (try dsimp only at hSw); go_simp)⟩) hHeld ?_
                  simp only [List.setIfInBounds_toArray, List.set_cons_zero, List.set_cons_succ]
                  refine takeD 8 105 (v := .string p) rfl rfl (by kernel_rfl) (by kernel_rfl) (by kernel_rfl) (fun _ _ _ h => h) (Or.inl ⟨by rfl, by (intro w hSw; (try dsimp only at hSw); go_simp)⟩) hHeld ?_
                  simp only [List.setIfInBounds_toArray, List.set_cons_zero, List.set_cons_succ]
                  refine takeD 9 106 (v := .int .i64 (a : Int)) rfl rfl (by kernel_rfl) (by kernel_rfl) (by kernel_rfl) (fun _ _ _ h => h) (Or.inl ⟨by rfl, by (intro w hSw; (try dsimp only at hSw); go_simp)⟩) hHeld ?_
                  simp only [List.setIfInBounds_toArray, List.set_cons_zero, List.set_cons_succ]
                  refine takeD 10 107 (v := .string (p.extract a p.size)) rfl rfl (by kernel_rfl) (by kernel_rfl) (by kernel_rfl) (fun _ _ _ h => h) (Or.inl ⟨by rfl, by (intro w hSw; (try dsimp only at hSw); go_simp)⟩) hHeld ?_
                  simp only [List.setIfInBounds_toArray, List.set_cons_zero, List.set_cons_succ]
                  refine takeD 11 108 (v := .string p) rfl rfl (by kernel_rfl) (by kernel_rfl) (by kernel_rfl) (fun _ _ _ h => h) (Or.inl ⟨by rfl, by (intro w hSw; (try dsimp only at hSw); go_simp)⟩) hHeld ?_
                  simp only [List.setIfInBounds_toArray, List.set_cons_zero, List.set_cons_succ]
                  refine takeD 12 109 (v := .int .i64 (p.size : Int)) rfl rfl (by kernel_rfl) (by kernel_rfl) (by kernel_rfl) (fun _ _ _ h => h) (Or.inl ⟨by rfl, by (intro w hSw; (try dsimp only at hSw); go_simp)⟩) hHeld ?_
                  simp only [List.setIfInBounds_toArray, List.set_cons_zero, List.set_cons_succ]
                  refine takeD 13 110 (v := .int .i64 (a : Int)) rfl rfl (by kernel_rfl) (by kernel_rfl) (by kernel_rfl) (fun _ _ _ h => h) (Or.inl ⟨by rfl, by (intro w hSw; (try dsimp only at hSw); go_simp)⟩) hHeld ?_
                  simp only [List.setIfInBounds_toArray, List.set_cons_zero, List.set_cons_succ]
                  refine takeD 14 111 (v := .int .i64 (z : Int)) rfl rfl (by kernel_rfl) (by kernel_rfl) (by kernel_rfl) (fun _ _ _ h => h) (Or.inl ⟨by rfl, by (intro w hSw; (try dsimp only at hSw); go_simp)⟩) hHeld ?_
                  simp only [List.setIfInBounds_toArray, List.set_cons_zero, List.set_cons_succ]
                  refine wpAnyH_ready (rs := [15]) (by kernel_rfl) (by simp) ?_
                  refine AllReadyH.cons rfl (fun K hK => ?_) AllReadyH.nil
                  go_simp
                  refine (cZ _).mono ?_
                  rintro e wZ ⟨rfl, bZ⟩
                  go_simp
                  refine hK.out _ _ (trivial) (fun hHeld => ?_)
                  clear hK K
                  refine takeD 16 113 (v := .bool true) rfl rfl (by kernel_rfl) (by kernel_rfl) (by kernel_rfl) (fun _ _ _ h => h) (Or.inl ⟨by rfl, by (intro w hSw; (try dsimp only at hSw); go_simp)⟩) hHeld ?_
                  simp only [List.setIfInBounds_toArray, List.set_cons_zero, List.set_cons_succ]
                  refine takeD 17 114 (v := .bool true) rfl rfl (by kernel_rfl) (by kernel_rfl) (by kernel_rfl) (fun _ _ _ h => h) (Or.inl ⟨by rfl, by (intro w hSw; (try dsimp only at hSw); go_simp)⟩) hHeld ?_
                  simp only [List.setIfInBounds_toArray, List.set_cons_zero, List.set_cons_succ]
                  refine wpAnyH_done (by kernel_rfl) ?_ _
                  go_wp2_with fail
                  rw [Exit.noGoto_ret]
                  go_ret2
                  exact ⟨_, by rw [HN.out]; rfl, by rw [HN.out]; exact rw_nil _ _, (below2 hbD (below2 bR bZ))⟩
            · have hT2 : (((trimL acc).length : Int) == (acc.length : Int)) = false := by simp; omega
              have HN : Hid (rd p = none) := by
                show _ = _
                rw [hrd, if_neg]
                rintro ⟨_, q, _⟩
                exact hT q
              generalize (trimL acc).length = tl at *
              clear hrd HR
              go_wp2_with fail
              refine cT.mono ?_
              rintro e w3 ⟨rfl, e3⟩
              rw [e3]
              clear e3 cT
              go_wp2_with fail
              refine wp_region_held_drew (S := (fun _ => True)) (by kernel_rfl) (trivial) (fun hHeld => ?_)
              refine takeD 0 97 (v := .bool false) rfl rfl (by kernel_rfl) (by kernel_rfl) (by kernel_rfl) (fun _ _ _ h => h) (Or.inl ⟨by rfl, by (intro w hSw; (try dsimp only at hSw); go_simp)⟩) hHeld ?_
              simp only [List.setIfInBounds_toArray, List.set_cons_zero, List.set_cons_succ]
              refine takeD 1 98 (v := .bool true) rfl rfl (by kernel_rfl) (by kernel_rfl) (by kernel_rfl) (fun _ _ _ h => h) (Or.inl ⟨by rfl, by (intro w hSw; (try dsimp only at hSw); go_simp)⟩) hHeld ?_
              simp only [List.setIfInBounds_toArray, List.set_cons_zero, List.set_cons_succ]
              refine takeD 2 99 (v := .bool true) rfl rfl (by kernel_rfl) (by kernel_rfl) (by kernel_rfl) (fun _ _ _ h => h) (Or.inl ⟨by rfl, by (intro w hSw; (try dsimp only at hSw); go_simp)⟩) hHeld ?_
              simp only [List.setIfInBounds_toArray, List.set_cons_zero, List.set_cons_succ]
              refine takeD 3 100 (v := undef) rfl rfl (by kernel_rfl) (by kernel_rfl) (by kernel_rfl) (fun _ _ _ h => h) (Or.inr ⟨by kernel_rfl, rfl⟩) hHeld ?_
              simp only [List.setIfInBounds_toArray, List.set_cons_zero, List.set_cons_succ]
              refine takeD 4 101 (v := undef) rfl rfl (by kernel_rfl) (by kernel_rfl) (by kernel_rfl) (fun _ _ _ h => h) (Or.inr ⟨by kernel_rfl, rfl⟩) hHeld ?_
              simp only [List.setIfInBounds_toArray, List.set_cons_zero, List.set_cons_succ]
              refine takeD 5 102 (v := undef) rfl rfl (by kernel_rfl) (by kernel_rfl) (by kernel_rfl) (fun _ _ _ h => h) (Or.inr ⟨by kernel_rfl, rfl⟩) hHeld ?_
              simp only [List.setIfInBounds_toArray, List.set_cons_zero, List.set_cons_succ]
              refine takeD 6 103 (v := .bool true) rfl rfl (by kernel_rfl) (by kernel_rfl) (by kernel_rfl) (fun _ _ _ h => h) (Or.inl ⟨by rfl, by (intro w hSw; (try dsimp only at hSw); go_simp)⟩) hHeld ?_
              simp only [List.setIfInBounds_toArray, List.set_cons_zero, List.set_cons_succ]
              refine takeD 7 104 (v := .bool true) rfl rfl (by kernel_rfl) (by kernel_rfl) (by kernel_rfl) (fun _ _ _ h => h) (Or.inl ⟨by rfl, by (intro w hSw; (try dsimp only at hSw); go_simp)⟩) hHeld ?_
              simp only [List.setIfInBounds_toArray, List.set_cons_zero, List.set_cons_succ]
              refine takeD 8 105 (v := undef) rfl rfl (by kernel_rfl) (by kernel_rfl) (by kernel_rfl) (fun _ _ _ h => h) (Or.inr ⟨by kernel_rfl, rfl⟩) hHeld ?_
              simp only [List.setIfInBounds_toArray, List.set_cons_zero, List.set_cons_succ]
              refine takeD 9 106 (v := undef) rfl rfl (by kernel_rfl) (by kernel_rfl) (by kernel_rfl) (fun _ _ _ h => h) (Or.inr ⟨by kernel_rfl, rfl⟩) hHeld ?_
              simp only [List.setIfInBounds_toArray, List.set_cons_zero, List.set_cons_succ]
              refine takeD 10 107 (v := undef) rfl rfl (by kernel_rfl) (by kernel_rfl) (by kernel_rfl) (fun _ _ _ h => h) (Or.inr ⟨by kernel_rfl, rfl⟩) hHeld ?_
              simp only [List.setIfInBounds_toArray, List.set_cons_zero, List.set_cons_succ]
              refine takeD 11 108 (v := undef) rfl rfl (by kernel_rfl) (by kernel_rfl) (by kernel_rfl) (fun _ _ _ h => h) (Or.inr ⟨by kernel_rfl, rfl⟩) hHeld ?_
              simp only [List.setIfInBounds_toArray, List.set_cons_zero, List.set_cons_succ]
              refine takeD 12 109 (v := undef) rfl rfl (by kernel_rfl) (by kernel_rfl) (by kernel_rfl) (fun _ _ _ h => h) (Or.inr ⟨by kernel_rfl, rfl⟩) hHeld ?_
              simp only [List.setIfInBounds_toArray, List.set_cons_zero, List.set_cons_succ]
              refine takeD 13 110 (v := undef) rfl rfl (by kernel_rfl) (by kernel_rfl) (by kernel_rfl) (fun _ _ _ h => h) (Or.inr ⟨by kernel_rfl, rfl⟩) hHeld ?_
              simp only [List.setIfInBounds_toArray, List.set_cons_zero, List.set_cons_succ]
              refine takeD 14 111 (v := undef) rfl rfl (by kernel_rfl) (by kernel_rfl) (by kernel_rfl) (fun _ _ _ h => h) (Or.inr ⟨by kernel_rfl, rfl⟩) hHeld ?_
              simp only [List.setIfInBounds_toArray, List.set_cons_zero, List.set_cons_succ]
              refine takeD 15 112 (v := undef) rfl rfl (by kernel_rfl) (by kernel_rfl) (by kernel_rfl) (fun _ _ _ h => h) (Or.inr ⟨by kernel_rfl, rfl⟩) hHeld ?_
              simp only [List.setIfInBounds_toArray, List.set_cons_zero, List.set_cons_succ]
              refine takeD 16 113 (v := undef) rfl rfl (by kernel_rfl) (by kernel_rfl) (by kernel_rfl) (fun _ _ _ h => h) (Or.inr ⟨by kernel_rfl, rfl⟩) hHeld ?_
              simp only [List.setIfInBounds_toArray, List.set_cons_zero, List.set_cons_succ]
              refine takeD 17 114 (v := .bool true) rfl rfl (by kernel_rfl) (by kernel_rfl) (by kernel_rfl) (fun _ _ _ h => h) (Or.inl ⟨by rfl, by (intro w hSw; (try dsimp only at hSw); go_simp)⟩) hHeld ?_
              simp only [List.setIfInBounds_toArray, List.set_cons_zero, List.set_cons_succ]
              refine wpAnyH_done (by kernel_rfl) ?_ _
              go_wp2_with fail
              rw [Exit.noGoto_ret]
              go_ret2
              exact ⟨_, by rw [HN.out]; rfl, by rw [HN.out]; exact rw_nil _ _, hbD⟩
      · have hn2 : (127 : Int) < (n : Int) := by omega
        have HN : Hid (rd p = none) := by
          show _ = _
          unfold rd
          rw [Hd.out, if_pos (Or.inr (Or.inr (by omega)))]
        go_enter Tryz.func85, Tryz.ntmps85
        go_wp2_with fail
        go_step3
        go_wp2_with fail
        refine (cG _).mono ?_
        rintro e w1 ⟨rfl, rfl⟩
        go_wp2_with fail
        rw [Exit.noGoto_ret]
        go_ret2
        exact ⟨_, by rw [HN.out]; rfl, by rw [HN.out]; exact rw_nil _ _, (Below.refl _ _)⟩
  · have hs2 : ((p.size : Int) != 512) = true := by simp; omega
    have HN : Hid (rd p = none) := by
      show _ = _
      unfold rd
      rw [if_pos (Or.inl hs)]
    go_enter Tryz.func85, Tryz.ntmps85
    go_wp2_with fail
    go_step3
    go_wp2_with fail
    refine (cG _).mono ?_
    rintro e w1 ⟨rfl, rfl⟩
    go_wp2_with fail
    rw [Exit.noGoto_ret]
    go_ret2
    exact ⟨_, by rw [HN.out]; rfl, by rw [HN.out]; exact rw_nil _ _, (Below.refl _ _)⟩

end Go.Proofs.YtkjioabhdglkpaaGreat
end

section
namespace Go.Proofs.YtkjioabhdglkpaaGreat
open Go.RowKit

/-- The bounds of an int. -/
abbrev i64ok (k : Int) : Prop := -9223372036854775808 ≤ k ∧ k ≤ 9223372036854775807

theorem read_no (p : ByteArray) (w : World) (hp : p.size ≤ 1000000) (h : rd p = none) :
    Calls Tryz.prog 85 #[.string p] w fun e w' => ∃ v, e = .returned (.tuple #[v, .bool false]) ∧ Rw 161 cf w' w.heap.size v [] ∧ Below w.heap.size w w' := by
  have := read_any p w hp
  rw [h] at this
  exact this
theorem read_yes (p : ByteArray) (w : World) (l : List Sl) (hp : p.size ≤ 1000000) (h : rd p = some l) :
    Calls Tryz.prog 85 #[.string p] w fun e w' => ∃ v, e = .returned (.tuple #[v, .bool true]) ∧ Rw 161 cf w' w.heap.size v l ∧ Below w.heap.size w w' := by
  have := read_any p w hp
  rw [h] at this
  exact this

set_option maxHeartbeats 800000 in
theorem good_any (p : ByteArray) (w : World) (hp : p.size ≤ 1000000) (b : Bool) (hb : (rd p).isSome = b) :
    Calls Tryz.prog 57 #[.string p] w fun e w' => e = .returned (.bool b) ∧ Below w.heap.size w w' := by
  have c := read_any p w hp
  rw [hb] at c
  clear hb
  go_enter Tryz.func57, Tryz.ntmps57
  go_wp2_with fail
  refine c.mono ?_
  rintro e w1 ⟨v, rfl, _, b1⟩
  go_wp2_with fail
  go_ret
  exact ⟨rfl, b1⟩

theorem pg_nil : pg [] = ba (List.replicate 512 0) := by decide +kernel

set_option maxHeartbeats 800000 in
theorem find_form (p : ByteArray) (k : Int) (w : World) (hp : p.size ≤ 1000000) (h : rd p = none) :
    Calls Tryz.prog 120 #[.string p, .int .i64 k] w fun e w' => e = .returned (.tuple #[.slice none 0 0, .int .i64 11]) ∧ Below w.heap.size w w' := by
  have c := read_no p w hp h
  clear h
  go_enter Tryz.func120, Tryz.ntmps120
  go_wp2_with fail
  refine c.mono ?_
  rintro e w1 ⟨v, rfl, _, b1⟩
  go_wp2_with fail
  go_ret2
  exact ⟨rfl, b1⟩

set_option maxHeartbeats 1600000 in
set_option maxRecDepth 100000 in
theorem find_none (p : ByteArray) (l : List Sl) (k : Int) (w : World) (hp : p.size ≤ 1000000) (h : rd p = some l) (_hl : l.length ≤ 1000) (hk : i64ok k) (hr : rowAt l k = none) :
    Calls Tryz.prog 120 #[.string p, .int .i64 k] w fun e w' => e = .returned (.tuple #[.slice none 0 0, .int .i64 60]) ∧ Below w.heap.size w w' := by
  have c := read_yes p w l hp h
  clear h
  obtain ⟨hk0, hk1⟩ := hk
  by_cases h0 : k < 0
  · go_enter Tryz.func120, Tryz.ntmps120
    go_wp2_with fail
    refine c.mono ?_
    rintro e w1 ⟨v, rfl, _, b1⟩
    go_wp2_with fail
    go_ret2
    exact ⟨rfl, b1⟩
  · obtain ⟨i, rfl⟩ : ∃ i : Nat, k = (i : Int) := ⟨k.toNat, by omega⟩
    by_cases h1 : i < l.length
    · have hx : l[i]? = some none := by
        have : l[i]? = some l[i] := by simp [h1]
        unfold rowAt at hr
        rw [if_pos (by omega), Int.toNat_natCast, this] at hr
        rw [this]
        simpa using hr
      have hi : ¬ (l.length : Int) ≤ (i : Int) := by omega
      clear hr h0
      go_enter Tryz.func120, Tryz.ntmps120
      go_wp2_with fail
      refine c.mono ?_
      rintro e w1 ⟨v, rfl, r1, b1⟩
      obtain ⟨b, c', rfl, _, _, _, _, c0, _⟩ := r1.cell hx
      have c0' : w1.cell? ⟨b, i * 2, none⟩ = some (.bool false) := c0
      clear c0
      go_wp2_with fail
      go_ret2
      exact ⟨rfl, b1⟩
    · have hi : (l.length : Int) ≤ (i : Int) := by omega
      clear hr
      go_enter Tryz.func120, Tryz.ntmps120
      go_wp2_with fail
      refine c.mono ?_
      rintro e w1 ⟨v, rfl, r1, b1⟩
      obtain ⟨sa, sc, rfl, _⟩ := r1.len
      go_wp2_with fail
      go_ret2
      exact ⟨rfl, b1⟩

set_option maxHeartbeats 1600000 in
set_option maxRecDepth 100000 in
theorem find_some (p : ByteArray) (l : List Sl) (i : Nat) (r : ByteArray) (w : World) (hp : p.size ≤ 1000000) (h : rd p = some l) (_hl : l.length ≤ 1000) (hx : l[i]? = some (some r)) :
    Calls Tryz.prog 120 #[.string p, .int .i64 (i : Int)] w fun e w' => ∃ v, e = .returned (.tuple #[v, .int .i64 0]) ∧ Rw 161 cf w' w.heap.size v l ∧ Below w.heap.size w w' := by
  have c := read_yes p w l hp h
  clear h
  have h1 : i < l.length := (List.getElem?_eq_some_iff.1 hx).1
  have hi : ¬ (l.length : Int) ≤ (i : Int) := by omega
  go_enter Tryz.func120, Tryz.ntmps120
  go_wp2_with fail
  refine c.mono ?_
  rintro e w1 ⟨v, rfl, r1, b1⟩
  have r2 := r1
  obtain ⟨b, c', rfl, _, _, _, _, c0, _⟩ := r1.cell hx
  have c0' : w1.cell? ⟨b, i * 2, none⟩ = some (.bool true) := c0
  clear c0
  go_wp2_with fail
  go_ret2
  exact ⟨_, rfl, r2, b1⟩

set_option maxHeartbeats 800000 in
theorem get_row (p : ByteArray) (l : List Sl) (i : Nat) (r : ByteArray) (w : World) (hp : p.size ≤ 1000000) (h : rd p = some l) (hl : l.length ≤ 1000) (hr : r.size ≤ 400) (hx : l[i]? = some (some r)) :
    Calls Tryz.prog 109 #[.string p, .int .i64 (i : Int)] w fun e w' => e = .returned (.tuple #[.string r, .int .i64 0]) ∧ Below w.heap.size w w' := by
  have c := find_some p l i r w hp h hl hx
  have h1 : i < l.length := (List.getElem?_eq_some_iff.1 hx).1
  clear h
  go_enter Tryz.func109, Tryz.ntmps109
  go_wp2_with fail
  refine c.mono ?_
  rintro e w1 ⟨v, rfl, r1, b1⟩
  obtain ⟨b, c', rfl, _, _, _, _, _, c1, _⟩ := r1.cell hx
  have c1' : w1.cell? ⟨b, i * 2 + 1, none⟩ = some (.string r) := c1
  clear c1
  go_wp2_with fail
  refine (clone_any r w1 (by omega)).mono ?_
  rintro e w2 ⟨rfl, b2⟩
  go_wp2_with fail
  go_ret2
  exact ⟨rfl, below2 b1 b2⟩

set_option maxHeartbeats 800000 in
theorem get_err (p : ByteArray) (k E : Int) (w : World) (hE : E = 11 ∨ E = 60) (c : Calls Tryz.prog 120 #[.string p, .int .i64 k] w fun e w' => e = .returned (.tuple #[.slice none 0 0, .int .i64 E]) ∧ Below w.heap.size w w') :
    Calls Tryz.prog 109 #[.string p, .int .i64 k] w fun e w' => e = .returned (.tuple #[.string ⟨#[]⟩, .int .i64 E]) ∧ Below w.heap.size w w' := by
  have hE2 : (E != 0) = true := by rcases hE with rfl | rfl <;> rfl
  clear hE
  go_enter Tryz.func109, Tryz.ntmps109
  go_wp2_with fail
  refine c.mono ?_
  rintro e w1 ⟨rfl, b1⟩
  go_wp2_with fail
  go_ret2
  exact ⟨rfl, b1⟩

set_option maxHeartbeats 800000 in
theorem del_err (p : ByteArray) (k E : Int) (w : World) (hE : E = 11 ∨ E = 60) (c : Calls Tryz.prog 120 #[.string p, .int .i64 k] w fun e w' => e = .returned (.tuple #[.slice none 0 0, .int .i64 E]) ∧ Below w.heap.size w w') :
    Calls Tryz.prog 88 #[.string p, .int .i64 k] w fun e w' => e = .returned (.tuple #[.string ⟨#[]⟩, .int .i64 E]) ∧ Below w.heap.size w w' := by
  have hE2 : (E != 0) = true := by rcases hE with rfl | rfl <;> rfl
  clear hE
  go_enter Tryz.func88, Tryz.ntmps88
  go_wp2_with fail
  refine c.mono ?_
  rintro e w1 ⟨rfl, b1⟩
  go_wp2_with fail
  go_ret2
  exact ⟨rfl, b1⟩

set_option maxHeartbeats 800000 in
theorem pdel_row (p : ByteArray) (l : List Sl) (i : Nat) (r : ByteArray) (w : World) (hp : p.size ≤ 1000000) (h : rd p = some l) (hF : Fine l) (hx : l[i]? = some (some r)) (P : ByteArray) (HP : Hid (pg (delL l (i : Int)) = P)) :
    Calls Tryz.prog 88 #[.string p, .int .i64 (i : Int)] w fun e w' => e = .returned (.tuple #[.string P, .int .i64 0]) ∧ Below w.heap.size w w' := by
  have hl : l.length ≤ 1000 := by have := few hF.room; omega
  have c := find_some p l i r w hp h hl hx
  have h1 : i < l.length := (List.getElem?_eq_some_iff.1 hx).1
  have hF2 : Fine (trimL (l.set i none)) := by have := del_fine hF (i : Int); simpa [delL] using this
  have HP2 : Hid (pg (trimL (l.set i none)) = P) := by show _ = _; have := HP.out; simpa [delL] using this
  clear h HP
  go_enter Tryz.func88, Tryz.ntmps88
  go_wp2_with fail
  refine c.mono ?_
  rintro e w1 ⟨v, rfl, r1, b1⟩
  have r1' := r1
  obtain ⟨b, c', rfl, hc, _, hb, _, c0, c1, f0, f1⟩ := r1.cell hx
  have r2 := r1'.set2 (i := i) (s := none)
  have b2 := ((Below.refl w.heap.size w1).setCell (p := ⟨b, i * 2, none⟩) hb (.bool false)).setCell (p := ⟨b, i * 2 + 1, none⟩) hb (.string ⟨#[]⟩)
  have c0' : w1.cell? ⟨b, i * 2, none⟩ = some (.bool true) := c0
  have c1' : w1.cell? ⟨b, i * 2 + 1, none⟩ = some (.string r) := c1
  have cW := pwrite_any (some ⟨b, 0, none⟩) c' (l.set i none) w.heap.size _ (by rw [List.length_set]; exact r2) (by rw [List.length_set]; exact hl) (by rw [List.length_set]; exact hc) hF2 P HP2
  rw [List.length_set] at cW
  clear c0 c1 c HP2 hF2
  go_wp2_with fail
  refine cW.mono ?_
  rintro e w2 ⟨rfl, b3⟩
  go_wp2_with fail
  go_ret2
  exact ⟨rfl, (b1.trans b2).trans (b3.mono (b1.trans b2).size)⟩

end Go.Proofs.YtkjioabhdglkpaaGreat
end

section
namespace Go.Proofs.YtkjioabhdglkpaaGreat
open Go.RowKit

set_option maxHeartbeats 800000 in
theorem ins_form (p row : ByteArray) (w : World) (hp : p.size ≤ 1000000) (h : rd p = none) :
    Calls Tryz.prog 123 #[.string p, .string row] w fun e w' => e = .returned (.tuple #[.string ⟨#[]⟩, .int .i64 0, .int .i64 11]) ∧ Below w.heap.size w w' := by
  have c := read_no p w hp h
  clear h
  go_enter Tryz.func123, Tryz.ntmps123
  go_wp2_with fail
  refine c.mono ?_
  rintro e w1 ⟨v, rfl, _, b1⟩
  go_wp2_with fail
  go_ret3
  exact ⟨rfl, b1⟩

/-- What Insert tells. -/
def insR (l : List Sl) (row : ByteArray) : ByteArray × Int × Int := if insE l row = 0 then (pg (insL l row), (first l : Int), 0) else (⟨#[]⟩, 0, insE l row)
theorem ins_trim {l : List Sl} (h : Fine l) (row : ByteArray) (he : insE l row = 0) : trimL (insL l row) = insL l row := (ins_fine h row he).trim

set_option maxHeartbeats 1600000 in
set_option maxRecDepth 100000 in
theorem ins_any (p : ByteArray) (l : List Sl) (row : ByteArray) (w : World) (hp : p.size ≤ 1000000) (h : rd p = some l) (hF : Fine l) (hrs : row.size ≤ 1000000) (P : ByteArray) (K E : Int) (HP : Hid (insR l row = (P, K, E))) :
    Calls Tryz.prog 123 #[.string p, .string row] w fun e w' => e = .returned (.tuple #[.string P, .int .i64 K, .int .i64 E]) ∧ Below w.heap.size w w' := by
  have hl : l.length ≤ 127 := few hF.room
  have c := read_yes p w l hp h
  have hwl := withF_len l
  clear h
  by_cases h4 : 400 < row.size
  · have h42 : (400 : Int) < (row.size : Int) := by omega
    have hE : insE l row = 2 := by unfold insE; rw [if_pos h4]
    obtain ⟨rfl, rfl, rfl⟩ : P = ⟨#[]⟩ ∧ K = 0 ∧ E = 2 := by
      have := HP.out
      unfold insR at this
      rw [hE, if_neg (by decide)] at this
      cases this
      exact ⟨rfl, rfl, rfl⟩
    go_enter Tryz.func123, Tryz.ntmps123
    go_wp2_with fail
    refine c.mono ?_
    rintro e w1 ⟨v, rfl, r1, b1⟩
    obtain ⟨sa, sc, rfl, hsc, _⟩ := r1.len
    go_wp2_with fail
    refine (withFree_any sa sc l w.heap.size w1 r1 (by omega) b1.size).mono ?_
    rintro e w2 ⟨v2, rfl, r2, b2⟩
    go_wp2_with fail
    go_ret3
    exact ⟨rfl, b1.trans b2⟩
  · have h42 : ¬ (400 : Int) < (row.size : Int) := by omega
    have hrw : ∀ r, some r ∈ withF l → r.size ≤ 400 := fun r hr => hF.rows r (withF_mem hr)
    obtain ⟨R, hR⟩ : ∃ R, room (withF l) = R := ⟨_, rfl⟩
    have HR : Hid (room (withF l) = R) := hR
    by_cases h5 : R < (row.size : Int)
    · have hE : insE l row = 50 := by unfold insE; rw [if_neg h4, hR, if_pos h5]
      obtain ⟨rfl, rfl, rfl⟩ : P = ⟨#[]⟩ ∧ K = 0 ∧ E = 50 := by
        have := HP.out
        unfold insR at this
        rw [hE, if_neg (by decide)] at this
        cases this
        exact ⟨rfl, rfl, rfl⟩
      clear hR HP hE
      go_enter Tryz.func123, Tryz.ntmps123
      go_wp2_with fail
      refine c.mono ?_
      rintro e w1 ⟨v, rfl, r1, b1⟩
      obtain ⟨sa, sc, rfl, hsc, _⟩ := r1.len
      go_wp2_with fail
      refine (withFree_any sa sc l w.heap.size w1 r1 (by omega) b1.size).mono ?_
      rintro e w2 ⟨v2, rfl, r2, b2⟩
      obtain ⟨ta, tc, rfl, htc, _⟩ := r2.len
      go_wp2_with fail
      refine (room_any ta tc (withF l) w.heap.size w2 r2 (by omega) hrw R HR).mono ?_
      rintro e w3 ⟨rfl, b3⟩
      go_wp2_with fail
      go_ret3
      exact ⟨rfl, (b1.trans b2).trans (b3.mono (b1.trans b2).size)⟩
    · have hE : insE l row = 0 := by unfold insE; rw [if_neg h4, hR, if_neg h5]
      have hF2 : Fine (trimL (insL l row)) := by rw [ins_trim hF row hE]; exact ins_fine hF row hE
      obtain ⟨HP2, rfl, rfl⟩ : Hid (pg (trimL (insL l row)) = P) ∧ K = (first l : Int) ∧ E = 0 := by
        have := HP.out
        unfold insR at this
        rw [if_pos hE] at this
        cases this
        exact ⟨by rw [ins_trim hF row hE]; exact rfl, rfl, rfl⟩
      have hx := withF_first l
      have hfl : first l < (withF l).length := (List.getElem?_eq_some_iff.1 hx).1
      have hfi : (first l : Int) < ((withF l).length : Int) := by omega
      clear hR HP hE
      go_enter Tryz.func123, Tryz.ntmps123
      go_wp2_with fail
      refine c.mono ?_
      rintro e w1 ⟨v, rfl, r1, b1⟩
      obtain ⟨sa, sc, rfl, hsc, _⟩ := r1.len
      go_wp2_with fail
      refine (withFree_any sa sc l w.heap.size w1 r1 (by omega) b1.size).mono ?_
      rintro e w2 ⟨v2, rfl, r2, b2⟩
      have b02 := b1.trans b2
      have r2' := r2
      obtain ⟨b, tc, rfl, htc, _, hb, hbl, c0, c1, f0, f1⟩ := r2.cell hx
      clear r2
      go_wp2_with fail
      refine (room_any _ tc (withF l) w.heap.size w2 r2' (by omega) hrw R HR).mono ?_
      rintro e w3 ⟨rfl, b3⟩
      have b03 := b02.trans (b3.mono b02.size)
      have r3 := r2'.below' b3
      have r4 := r3.set2 (i := first l) (s := some row)
      have b4 := ((Below.refl w.heap.size w3).setCell (p := ⟨b, first l * 2, none⟩) hb (.bool true)).setCell (p := ⟨b, first l * 2 + 1, none⟩) hb (.string row)
      have c0' : w3.cell? ⟨b, first l * 2, none⟩ = some (.bool false) := (b3.cell (p := ⟨b, first l * 2, none⟩) hbl).trans c0
      have c1' : w3.cell? ⟨b, first l * 2 + 1, none⟩ = some (.string ⟨#[]⟩) := (b3.cell (p := ⟨b, first l * 2 + 1, none⟩) hbl).trans c1
      have f0' : w3.frozen? ⟨b, first l * 2, none⟩ = false := (b3.frozen (p := ⟨b, first l * 2, none⟩) hbl).trans f0
      have f1' : w3.frozen? ⟨b, first l * 2 + 1, none⟩ = false := (b3.frozen (p := ⟨b, first l * 2 + 1, none⟩) hbl).trans f1
      have hil : (insL l row).length = (withF l).length := by unfold insL; rw [List.length_set]
      have cW := pwrite_any (some ⟨b, 0, none⟩) tc (insL l row) w.heap.size _ (by rw [hil]; exact r4) (by rw [hil]; omega) (by rw [hil]; exact htc) hF2 P HP2
      rw [hil] at cW
      clear c0 c1 f0 f1 c HP2 hF2 r3 r4 r2'
      go_wp2_with fail
      refine cW.mono ?_
      rintro e w5 ⟨rfl, b5⟩
      go_wp2_with fail
      go_ret3
      exact ⟨rfl, (b03.trans b4).trans (b5.mono (b03.trans b4).size)⟩

end Go.Proofs.YtkjioabhdglkpaaGreat
end

section
namespace Go.Proofs.YtkjioabhdglkpaaGreat
open Go.RowKit

/-- What Put tells, where a row is. -/
def putR (l : List Sl) (k : Int) (row : ByteArray) : ByteArray × Int := if putE l k row = 0 then (pg (putL l k row), 0) else (⟨#[]⟩, putE l k row)
theorem tot_mem {l : List Sl} {i : Nat} {s : Sl} (h : l[i]? = some s) : (rowOf s).size ≤ tot l := by
  have := tot_set l i s none h
  have e : (rowOf none).size = 0 := rfl
  omega

end Go.Proofs.YtkjioabhdglkpaaGreat
end

section
namespace Go.Proofs.YtkjioabhdglkpaaGreat
open Go.RowKit


theorem slots_step (l : List Sl) (k : Nat) (s : Sl) (hx : l[k]? = some s) : slotsF (l.take (k + 1)) 0 = slotsF (l.take k) 0 ++ (match s with | none => [] | some _ => [(k : Int)]) := by
  have hlt : k < l.length := (List.getElem?_eq_some_iff.1 hx).1
  rw [take_snoc l k s hx, slotsF_append, List.length_take, Nat.min_eq_left (by omega), Nat.zero_add]
  cases s <;> rfl

set_option maxHeartbeats 1600000 in
set_option maxRecDepth 100000 in
theorem slots_any (p : ByteArray) (l : List Sl) (w : World) (c : Calls Tryz.prog 85 #[.string p] w fun e w' => ∃ v b, e = .returned (.tuple #[v, .bool b]) ∧ Rw 161 cf w' w.heap.size v l ∧ Below w.heap.size w w') (hl : l.length ≤ 1000) (L : List Int) (HL : Hid (slotsF l 0 = L)) :
    Calls Tryz.prog 58 #[.string p] w fun e w' => ∃ v, e = .returned v ∧ IRow w' w.heap.size v L ∧ Below w.heap.size w w' := by
  go_enter Tryz.func58, Tryz.ntmps58
  go_wp2_with fail
  refine c.mono ?_
  rintro e w1 ⟨v, ok, rfl, r1, b1⟩
  clear c
  obtain ⟨sa, sc, rfl, hsc, _⟩ := r1.len
  go_wp2_with fail
  go_loopw [5, 15] (fun st si wr => ∃ k : Nat, k ≤ l.length ∧ si = .int .i64 (k : Int) ∧ IRow wr w1.heap.size st (slotsF (l.take k) 0) ∧ Below w1.heap.size w1 wr) (fun _ si _ => l.length - (intOf si).toNat)
  case atStart => exact ⟨0, Nat.zero_le _, rfl, irow_nil _ _, Below.refl _ _⟩
  case round =>
    obtain ⟨k, hk, rfl, hrow, hb⟩ := hrel
    obtain ⟨ta, tc, rfl, htc, _⟩ := hrow.len
    by_cases hlt : k < l.length
    · have hlt2 : (k : Int) < (l.length : Int) := by omega
      have hx : l[k]? = some l[k] := by simp [hlt]
      generalize l[k] = s at hx
      have hsl := slotsF_len (l.take k) 0
      rw [List.length_take] at hsl
      have hst := slots_step l k s hx
      obtain ⟨b, c', e, _, _, _, hbl, c0, c1, _⟩ := r1.cell hx
      cases e
      generalize slotsF (l.take k) 0 = A at *
      cases s with
      | none =>
        have d0 : wr.cell? ⟨b, k * 2, none⟩ = some (.bool false) := (hb.cell (p := ⟨b, k * 2, none⟩) hbl).trans c0
        have d1 : wr.cell? ⟨b, k * 2 + 1, none⟩ = some (.string ⟨#[]⟩) := (hb.cell (p := ⟨b, k * 2 + 1, none⟩) hbl).trans c1
        have HS : Hid (slotsF (l.take (k + 1)) 0 = A) := by show _ = _; rw [hst]; simp
        clear c0 c1 hst
        go_wp2_with fail
        go_roundw
        case rel => exact ⟨k + 1, by omega, by go_num, by rw [HS.out]; exact hrow.below' (below_alloc1 _ _), below2 hb (below_alloc1 _ _)⟩
        case measure => simp [intOf]; omega
      | some r =>
        have d0 : wr.cell? ⟨b, k * 2, none⟩ = some (.bool true) := (hb.cell (p := ⟨b, k * 2, none⟩) hbl).trans c0
        have d1 : wr.cell? ⟨b, k * 2 + 1, none⟩ = some (.string r) := (hb.cell (p := ⟨b, k * 2 + 1, none⟩) hbl).trans c1
        have HS : Hid (slotsF (l.take (k + 1)) 0 = A ++ [(k : Int)]) := by show _ = _; rw [hst]
        have hb1 := below2 hb (below_alloc1 wr (.cells #[.bool true, .string r] 161))
        have hb2 := below2 hb1 (below_alloc1 _ (.cells #[.int .i64 (k : Int)] 3))
        have hr2 := (hrow.below' (below_alloc1 wr (.cells #[.bool true, .string r] 161))).below' (below_alloc1 _ (.cells #[.int .i64 (k : Int)] 3))
        clear c0 c1 hst
        go_wp2_with (at_builtin; refine wpList_append_int _ rfl _ _ rfl w1.heap.size _ A [(k : Int)] rfl hr2 ⟨wr.heap.size + 1, 0, none⟩ 1 (by simp; rfl) (one_src _ _ (by simp)) (by simp; omega) hb2.size ?_; intro v' w' hrow' hfr hnew)
        go_roundw
        case rel => exact ⟨k + 1, by omega, by go_num, by rw [HS.out]; exact hrow', hfr.below hb2 hb2.size (fun k e => (hrow.blk e).1)⟩
        case measure => simp [intOf]; omega
    · obtain rfl : k = l.length := by omega
      rw [List.take_length] at *
      have HL2 : Hid (slotsF l 0 = L) := HL
      generalize slotsF l 0 = A at *
      go_wp2_with fail
      go_ret
      exact ⟨_, rfl, by rw [← HL2.out]; exact hrow.mono b1.size, below2 b1 hb⟩

end Go.Proofs.YtkjioabhdglkpaaGreat
end

section
namespace Go.Proofs.YtkjioabhdglkpaaGreat
open Go.RowKit

/-- A call's answer: another page, or an error. -/
def Out (l l' : List Sl) (P : ByteArray) (E : Int) : Prop := (E = 0 ∧ P = pg l' ∧ Fine l') ∨ (E ≠ 0 ∧ P = ⟨#[]⟩ ∧ l' = l)

def insN (l : List Sl) (row : ByteArray) : List Sl := if insE l row = 0 then insL l row else l
def putN (l : List Sl) (k : Int) (row : ByteArray) : List Sl := if putE l k row = 0 then putL l k row else l
def delN (l : List Sl) (k : Int) : List Sl := if delE l k = 0 then delL l k else l

theorem Out.fine {l l' : List Sl} {P : ByteArray} {E : Int} (h : Out l l' P E) (hF : Fine l) : Fine l' := by
  rcases h with ⟨_, _, h⟩ | ⟨_, _, rfl⟩
  · exact h
  · exact hF
theorem Out.size {l l' : List Sl} {P : ByteArray} {E : Int} (h : Out l l' P E) : P.size ≤ 512 := by
  rcases h with ⟨_, rfl, h⟩ | ⟨_, rfl, _⟩
  · rw [pg_size h]; exact Nat.le_refl _
  · exact Nat.zero_le _

section
variable {l : List Sl} (hF : Fine l)

theorem ins_pg (hF : Fine l) (row : ByteArray) (hrs : row.size ≤ 1000000) : ∃ (P : ByteArray) (K E : Int), Out l (insN l row) P E ∧ insR l row = (P, K, E) ∧ ∀ w, Calls Tryz.prog 123 #[.string (pg l), .string row] w fun e w' => e = .returned (.tuple #[.string P, .int .i64 K, .int .i64 E]) ∧ Below w.heap.size w w' := by
  refine ⟨(insR l row).1, (insR l row).2.1, (insR l row).2.2, ?_, rfl, fun w => ins_any (pg l) l row w (by rw [pg_size hF]; omega) (rd_pg hF) hF hrs _ _ _ rfl⟩
  unfold insR insN
  by_cases h : insE l row = 0
  · rw [if_pos h, if_pos h]
    exact Or.inl ⟨rfl, rfl, ins_fine hF row h⟩
  · rw [if_neg h, if_neg h]
    exact Or.inr ⟨h, rfl, rfl⟩

theorem find_miss (hF : Fine l) (k : Int) (hk : i64ok k) (hr : rowAt l k = none) (w : World) : Calls Tryz.prog 120 #[.string (pg l), .int .i64 k] w fun e w' => e = .returned (.tuple #[.slice none 0 0, .int .i64 60]) ∧ Below w.heap.size w w' :=
  find_none (pg l) l k w (by rw [pg_size hF]; omega) (rd_pg hF) (by have := few hF.room; omega) hk hr

theorem del_pg (hF : Fine l) (k : Int) (hk : i64ok k) : ∃ (P : ByteArray) (E : Int), Out l (delN l k) P E ∧ E = delE l k ∧ ∀ w, Calls Tryz.prog 88 #[.string (pg l), .int .i64 k] w fun e w' => e = .returned (.tuple #[.string P, .int .i64 E]) ∧ Below w.heap.size w w' := by
  cases hr : rowAt l k with
  | none =>
    have hE : delE l k = 60 := by unfold delE; rw [hr]
    refine ⟨⟨#[]⟩, 60, ?_, hE.symm, fun w => del_err (pg l) k 60 w (Or.inr rfl) (find_miss hF k hk hr w)⟩
    unfold delN
    rw [hE]
    exact Or.inr ⟨by decide, rfl, rfl⟩
  | some r =>
    have hE : delE l k = 0 := by unfold delE; rw [hr]
    obtain ⟨h0, hx⟩ := rowAt_some hr
    obtain ⟨i, rfl⟩ : ∃ i : Nat, k = (i : Int) := ⟨k.toNat, by omega⟩
    rw [Int.toNat_natCast] at hx
    refine ⟨pg (delL l (i : Int)), 0, ?_, hE.symm, fun w => pdel_row (pg l) l i r w (by rw [pg_size hF]; omega) (rd_pg hF) hF hx _ rfl⟩
    unfold delN
    rw [if_pos hE]
    exact Or.inl ⟨rfl, rfl, del_fine hF _⟩

theorem get_pg (hF : Fine l) (k : Int) (hk : i64ok k) (w : World) : Calls Tryz.prog 109 #[.string (pg l), .int .i64 k] w fun e w' => e = .returned (.tuple #[.string (rowOf (rowAt l k)), .int .i64 (delE l k)]) ∧ Below w.heap.size w w' := by
  cases hr : rowAt l k with
  | none =>
    have hE : delE l k = 60 := by unfold delE; rw [hr]
    rw [hE]
    exact get_err (pg l) k 60 w (Or.inr rfl) (find_miss hF k hk hr w)
  | some r =>
    have hE : delE l k = 0 := by unfold delE; rw [hr]
    obtain ⟨h0, hx⟩ := rowAt_some hr
    obtain ⟨i, rfl⟩ : ∃ i : Nat, k = (i : Int) := ⟨k.toNat, by omega⟩
    rw [Int.toNat_natCast] at hx
    rw [hE]
    exact get_row (pg l) l i r w (by rw [pg_size hF]; omega) (rd_pg hF) (by have := few hF.room; omega) (hF.rows r (List.mem_of_getElem? hx)) hx

theorem good_pg (hF : Fine l) (w : World) : Calls Tryz.prog 57 #[.string (pg l)] w fun e w' => e = .returned (.bool true) ∧ Below w.heap.size w w' :=
  good_any (pg l) w (by rw [pg_size hF]; omega) true (by rw [rd_pg hF]; rfl)
theorem slots_pg (hF : Fine l) (L : List Int) (HL : Hid (slotsF l 0 = L)) (w : World) : Calls Tryz.prog 58 #[.string (pg l)] w fun e w' => ∃ v, e = .returned v ∧ IRow w' w.heap.size v L ∧ Below w.heap.size w w' :=
  slots_any (pg l) l w ((read_yes (pg l) w l (by rw [pg_size hF]; omega) (rd_pg hF)).mono (by rintro e w' ⟨v, rfl, h⟩; exact ⟨v, _, rfl, h⟩)) (by have := few hF.room; omega) L HL
end

/-- A row stays where others are trimmed. -/
theorem trim_keep (l : List Sl) (i : Nat) (r : ByteArray) (h : l[i]? = some (some r)) : (trimL l)[i]? = some (some r) := by
  have hn : ∀ n, ∀ l : List Sl, l.length = n → l[i]? = some (some r) → (trimL l)[i]? = some (some r) := by
    intro n
    induction n with
    | zero => intro l hl h; rw [List.eq_nil_of_length_eq_zero hl] at h; simp at h
    | succ n ih =>
      intro l hl h
      have h0 : l ≠ [] := by intro e; rw [e] at hl; simp at hl
      have e := (List.dropLast_concat_getLast h0).symm
      generalize l.dropLast = a at e
      generalize l.getLast h0 = s at e
      subst e
      cases s with
      | none =>
        rw [trim_none]
        have hlt : i < a.length := by
          have h1 := (List.getElem?_eq_some_iff.1 h).1
          rcases Nat.lt_or_ge i a.length with q | q
          · exact q
          · have : i = a.length := by simp at h1; omega
            rw [this] at h
            simp at h
        rw [List.getElem?_append_left hlt] at h
        exact ih a (by simpa using hl) h
      | some x => rw [trim_some]; exact h
  exact hn _ l rfl h

theorem ins_keep {l : List Sl} {r : ByteArray} {i : Nat} (h : l[i]? = some (some r)) (row : ByteArray) : (insN l row)[i]? = some (some r) := by
  unfold insN
  split
  · unfold insL
    have hlt : i < l.length := (List.getElem?_eq_some_iff.1 h).1
    have hw : (withF l)[i]? = some (some r) := by
      unfold withF
      split
      · exact h
      · rw [List.getElem?_append_left hlt]; exact h
    rw [List.getElem?_set_ne, hw]
    intro e
    rw [← e, withF_first l] at hw
    cases hw
  · exact h
theorem put_keep {l : List Sl} {r : ByteArray} {i : Nat} (h : l[i]? = some (some r)) (k : Int) (hk : k ≠ (i : Int)) (row : ByteArray) : (putN l k row)[i]? = some (some r) := by
  unfold putN
  split
  · rename_i hE
    have h0 : 0 ≤ k := by
      unfold putE at hE
      split at hE
      · cases hE
      · rename_i q; exact (rowAt_some q).1
    unfold putL
    rw [List.getElem?_set_ne (by omega)]
    exact h
  · exact h
theorem del_keep {l : List Sl} {r : ByteArray} {i : Nat} (h : l[i]? = some (some r)) (k : Int) (hk : k ≠ (i : Int)) : (delN l k)[i]? = some (some r) := by
  unfold delN
  split
  · rename_i hE
    have h0 : 0 ≤ k := by
      unfold delE at hE
      split at hE
      · cases hE
      · rename_i q; exact (rowAt_some q).1
    unfold delL
    apply trim_keep
    rw [List.getElem?_set_ne (by omega)]
    exact h
  · exact h

end Go.Proofs.YtkjioabhdglkpaaGreat
end

/- Rows of numbers; slices.Sort of them. -/
import Derived.Test.YtkjioabhdglkpaaGreatQSet
namespace Go.Proofs.YtkjioabhdglkpaaGreat
open Go.RowKit Go.Shelf Go.Lib Go.Sort

theorem owns_base {w : World} {b b' e size : Nat} {v : Value} {n : Nat} {xs : List Value} (h : w.ownsRow b e size v n xs) (hb : b' ≤ b) : w.ownsRow b' e size v n xs := by
  refine ⟨h.1, ?_⟩
  rcases h.2 with e | ⟨g, cap, cur, rfl, a, c⟩
  · exact Or.inl e
  · exact Or.inr ⟨g, cap, cur, rfl, Nat.le_trans hb a, c⟩
theorem Tryz.info3 : (Tryz.prog.info? 3).map (fun i => (i.zero, i.size, i.bytes)) = some (some (.int .i64 0), 1, 8) := by kernel_rfl
def intC (L : List Int) : List Value := L.map (Value.int .i64)

/-- A row of numbers. -/
structure IRow (w : World) (B : Nat) (v : Value) (L : List Int) : Prop where
  own : w.ownsRow B 3 1 v L.length (intC L)

section
variable {w w' : World} {B : Nat} {v : Value} {L : List Int}
theorem IRow.blk (h : IRow w B v L) {k : Nat} (hk : v.ownBlock = some k) : B ≤ k ∧ k < w.heap.size := h.own.lt k hk
theorem IRow.kept (h : IRow w B v L) (h1 : ∀ k, v.ownBlock = some k → w'.heap[k]? = w.heap[k]?) : IRow w' B v L := by
  refine ⟨⟨h.own.1, ?_⟩⟩
  rcases h.own.2 with e | ⟨g, cap, cur, rfl, a, b, c⟩
  · exact Or.inl e
  · exact Or.inr ⟨g, cap, cur, rfl, a, (h1 g rfl).trans b, c⟩
theorem IRow.below' (h : IRow w B v L) (hb : Below w.heap.size w w') : IRow w' B v L := h.kept (fun k e => hb.block k (h.blk e).2)
theorem IRow.mono {B' : Nat} (h : IRow w B v L) (hB : B' ≤ B) : IRow w B' v L := ⟨owns_base h.own hB⟩
theorem IRow.len (h : IRow w B v L) : ∃ a c, v = .slice a L.length c ∧ L.length ≤ c ∧ c ≤ maxLen := by
  rcases h.own.2 with ⟨rfl, e⟩ | ⟨g, cap, cur, rfl, _, _, c, d, _⟩
  · rw [e]; exact ⟨_, _, rfl, Nat.le_refl _, Nat.zero_le _⟩
  · exact ⟨_, _, rfl, c, d⟩
theorem IRow.cell (h : IRow w B v L) {i : Nat} {x : Int} (hs : L[i]? = some x) : ∃ b c, v = .slice (some ⟨b, 0, none⟩) L.length c ∧ L.length ≤ c ∧ B ≤ b ∧ b < w.heap.size ∧ w.cell? ⟨b, i, none⟩ = some (.int .i64 x) := by
  have hlt : i < L.length := (List.getElem?_eq_some_iff.1 hs).1
  have h0 := h.own
  rcases h.own.2 with ⟨_, e⟩ | ⟨g, cap, cur, rfl, hb, hg, c, d, _⟩
  · omega
  · exact ⟨g, cap, rfl, c, hb, (Array.getElem?_eq_some_iff.1 hg).1, by rw [h0.cellAt _ (by omega)]; simp [intC, hs]⟩
end
theorem irow_nil (w : World) (B : Nat) : IRow w B (.slice none 0 0) [] := ⟨World.ownsRow_nil _ _ _ _⟩

theorem run_append_int (w : World) (B : Nat) (ty : TypeId) (v : Value) (L M : List Int) (h : IRow w B v L) (a : Addr) (c : Nat) (hm : ∀ j u, (intC M)[j]? = some u → w.cell? (a.add j) = some u) (hlen : L.length + M.length ≤ 1000000) (hB : B ≤ w.heap.size) :
    ∃ v' w', (Builtin.append_ #[66, 66] ty #[v, .slice (some a) M.length c]).run Tryz.prog w = .ok v' w' ∧ IRow w' B v' (L ++ M) ∧ Fr (fun k => v.ownBlock = some k) w w' ∧ ∀ k, v'.ownBlock = some k → v.ownBlock = some k ∨ w.heap.size ≤ k := by
  obtain ⟨i0, hi, hz0, hz1, hz2⟩ := info_parts Tryz.info3
  obtain ⟨v', w', hr, h2, h3, h4⟩ := run_append_own2 (P := Tryz.prog) w B 66 ty 3 i0 _ 1 8 Tryz.underlying66 hi hz0 hz1 hz2 rfl (by decide) v L.length (intC L) h.own a M.length c (intC M) (by simp [intC]) hm (by intro u hu; simp only [intC, List.mem_map] at hu; obtain ⟨y, _, rfl⟩ := hu; rfl) (by unfold maxLen; omega) (by omega) hB
  refine ⟨v', w', hr, ⟨?_⟩, fr_grown h3, h4⟩
  rw [List.length_append, intC, List.map_append]
  exact h2

/-- append of numbers, in a list of operations. -/
theorem wpList_append_int {ops : Array Oper} {rest : List Oper} {o : Oper} {ac : Act} {Q : Exit → Act → World → Prop} (w : World) (hgd : o.guard = none) (s x : Operand)
    (ho : o.op = .call { callee := .builtin .append, args := #[s, x], argTypes := #[66, 66] })
    (B : Nat) (v : Value) (L M : List Int) (hs : ac.eval s = v) (hrow : IRow w B v L) (a : Addr) (c : Nat) (hx : ac.eval x = .slice (some a) M.length c) (hm : ∀ j u, (intC M)[j]? = some u → w.cell? (a.add j) = some u) (hlen : L.length + M.length ≤ 100000) (hB : B ≤ w.heap.size)
    (h : ∀ v' w', IRow w' B v' (L ++ M) → Fr (fun k => v.ownBlock = some k) w w' → (∀ k, v'.ownBlock = some k → v.ownBlock = some k ∨ w.heap.size ≤ k) → wpList Tryz.prog ops Q rest (ac.put o.dst v') w') : wpList Tryz.prog ops Q (o :: rest) ac w := by
  obtain ⟨v', w', hr, h2, h3, h4⟩ := run_append_int w B o.type v L M hrow a c hm (by omega) hB
  refine wpList_plain hgd fun K hK => ?_
  unfold Oper.wp execOp
  simp only [ho, resolve, invoke, builtin, Sem.run_bind, Sem.run_pure, Result.andThen_ok, List.map_toArray, List.map_cons, List.map_nil, hs, hx, hr]
  exact hK _ _ (h v' w' h2 h3 h4)

theorem one_src {w : World} (a : Nat) (x : Int) (h : w.cell? ⟨a, 0, none⟩ = some (.int .i64 x)) : ∀ j u, (intC [x])[j]? = some u → w.cell? ((⟨a, 0, none⟩ : Addr).add j) = some u := by
  intro j u hu
  rw [Addr.add_lit]
  match j, hu with
  | 0, hu => simp [intC] at hu; subst hu; exact h


/-- Numbers, rising. -/
def sortI (l : List Int) : List Int := l.mergeSort fun x y => decide (x ≤ y)

theorem fr_grow (w : World) (os : Array Obj) (F : Nat → Prop) : Fr F w (grow w os) :=
  ⟨rfl, rfl, rfl, by show w.heap.size ≤ (w.heap ++ os).size; rw [Array.size_append]; omega, fun _ hj _ => Sort.heap_grow_old w os hj⟩

theorem sort_any (w : World) (B : Nat) (v : Value) (L : List Int) (h : IRow w B v L) (hl : L.length ≤ 100000) :
    Calls Tryz.prog 98 #[v] w fun e w' => e = .returned (.tuple #[]) ∧ IRow w' B v (sortI L) ∧ Fr (fun k => v.ownBlock = some k) w w' := by
  by_cases hn : v = .slice none 0 0
  · subst hn
    have hL : L = [] := by
      rcases h.own.2 with ⟨_, e⟩ | ⟨g, cap, cur, e, _⟩
      · exact List.eq_nil_of_length_eq_zero e
      · cases e
    subst hL
    refine (Tryz.slices_Sort_int_none none 0 w).mono ?_
    rintro e w' ⟨rfl, rfl⟩
    exact ⟨rfl, by simpa [sortI] using h, Fr.refl _ _⟩
  · have ho := h.own
    obtain ⟨g, cap, ev, hBg, hg, hnc, _, hzl, hH⟩ := holds_of_ownsRow (enc := Value.int .i64) (zs := L) ho hn
    subst ev
    refine (Tryz.slices_Sort_int g 0 cap L w hH hg (by omega)).mono ?_
    rintro e w' ⟨rfl, n, os, rfl⟩
    have hsl : (sortI L).length = L.length := List.length_mergeSort _
    have h1 := ownsRow_putRow (enc := Value.int .i64) (q := n) (k := L.length) (ys := sortI L) (zs := L) ho hsl (Nat.le_refl _)
    rw [List.take_of_length_le (by omega)] at h1
    have h2 := fr_putRow (Value.int .i64) w n g (sortI L).toArray
    refine ⟨rfl, ⟨?_⟩, ?_⟩
    · have := owns_kept h1 (w' := grow (putRow (Value.int .i64) (Sort.ahead w n) g 0 (sortI L).toArray) os) (fun k _ hk => Sort.heap_grow_old _ os hk)
      rw [hsl]
      exact this
    · refine (Fr.trans (F := fun k => (Value.slice (some ⟨g, 0, none⟩) L.length cap).ownBlock = some k) ?_ (fr_grow _ os (fun k => (Value.slice (some ⟨g, 0, none⟩) L.length cap).ownBlock = some k)) (fun _ _ e => e))
      exact ⟨h2.os, h2.tape, h2.output, h2.size, fun k hk hn => h2.block k hk (fun e => hn (by rw [e]; rfl))⟩

end Go.Proofs.YtkjioabhdglkpaaGreat

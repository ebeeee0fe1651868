/- Rows of numbers; Slots, Free. -/
import Derived.Test.YtfgblmbocchddaaPIns
import Derived.Test.YtfgblmbocchddaaPPut
namespace Go.Proofs.Ytfgblmbocchddaa
open Go.RowKit

theorem Try.info3 : (Try.prog.info? 3).map (fun i => (i.zero, i.size, i.bytes)) = some (some (.int .i64 0), 1, 8) := by kernel_rfl
def intC (L : List Int) : List Value := L.map (Value.int .i64)

/-- A row of numbers. -/
structure IRow (w : World) (B : Nat) (v : Value) (L : List Int) : Prop where
  own : w.ownsRow B 3 1 v L.length (intC L)

section
variable {w w' : World} {B : Nat} {v : Value} {L : List Int}
theorem IRow.blk (h : IRow w B v L) {k : Nat} (hk : v.ownBlock = some k) : B ≤ k ∧ k < w.heap.size := h.own.lt k hk
theorem IRow.kept (h : IRow w B v L) (h1 : ∀ k, v.ownBlock = some k → w'.heap[k]? = w.heap[k]?) : IRow w' B v L := by
  refine ⟨⟨h.own.1, ?_⟩⟩
  rcases h.own.2 with e | ⟨g, cap, cur, rfl, a, b, c⟩
  · exact Or.inl e
  · exact Or.inr ⟨g, cap, cur, rfl, a, (h1 g rfl).trans b, c⟩
theorem IRow.below' (h : IRow w B v L) (hb : Below w.heap.size w w') : IRow w' B v L := h.kept (fun k e => hb.block k (h.blk e).2)
theorem IRow.mono {B' : Nat} (h : IRow w B v L) (hB : B' ≤ B) : IRow w B' v L := ⟨own_mono h.own hB⟩
theorem IRow.len (h : IRow w B v L) : ∃ a c, v = .slice a L.length c ∧ L.length ≤ c ∧ c ≤ maxLen := by
  rcases h.own.2 with ⟨rfl, e⟩ | ⟨g, cap, cur, rfl, _, _, c, d, _⟩
  · rw [e]; exact ⟨_, _, rfl, Nat.le_refl _, Nat.zero_le _⟩
  · exact ⟨_, _, rfl, c, d⟩
theorem IRow.cell (h : IRow w B v L) {i : Nat} {x : Int} (hs : L[i]? = some x) : ∃ b c, v = .slice (some ⟨b, 0, none⟩) L.length c ∧ L.length ≤ c ∧ B ≤ b ∧ b < w.heap.size ∧ w.cell? ⟨b, i, none⟩ = some (.int .i64 x) := by
  have hlt : i < L.length := (List.getElem?_eq_some_iff.1 hs).1
  have h0 := h.own
  rcases h.own.2 with ⟨_, e⟩ | ⟨g, cap, cur, rfl, hb, hg, c, d, _⟩
  · omega
  · exact ⟨g, cap, rfl, c, hb, (Array.getElem?_eq_some_iff.1 hg).1, by rw [h0.cellAt _ (by omega)]; simp [intC, hs]⟩
end
theorem irow_nil (w : World) (B : Nat) : IRow w B (.slice none 0 0) [] := ⟨World.ownsRow_nil _ _ _ _⟩

theorem run_append_int (w : World) (B : Nat) (ty : TypeId) (v : Value) (L M : List Int) (h : IRow w B v L) (a : Addr) (c : Nat) (hm : ∀ j u, (intC M)[j]? = some u → w.cell? (a.add j) = some u) (hlen : L.length + M.length ≤ 1000000) (hB : B ≤ w.heap.size) :
    ∃ v' w', (Builtin.append_ #[36, 36] ty #[v, .slice (some a) M.length c]).run Try.prog w = .ok v' w' ∧ IRow w' B v' (L ++ M) ∧ Fr (fun k => v.ownBlock = some k) w w' ∧ ∀ k, v'.ownBlock = some k → v.ownBlock = some k ∨ w.heap.size ≤ k := by
  obtain ⟨i0, hi, hz0, hz1, hz2⟩ := info_parts Try.info3
  obtain ⟨v', w', hr, h2, h3, h4⟩ := run_append_own2 (P := Try.prog) w B 36 ty 3 i0 _ 1 8 Try.underlying36 hi hz0 hz1 hz2 rfl (by decide) v L.length (intC L) h.own a M.length c (intC M) (by simp [intC]) hm (by intro u hu; simp only [intC, List.mem_map] at hu; obtain ⟨y, _, rfl⟩ := hu; rfl) (by unfold maxLen; omega) (by omega) hB
  refine ⟨v', w', hr, ⟨?_⟩, Fr.of_grown h3, h4⟩
  rw [List.length_append, intC, List.map_append]
  exact h2

/-- append of numbers, in a list of operations. -/
theorem wpList_append_int {ops : Array Oper} {rest : List Oper} {o : Oper} {ac : Act} {Q : Exit → Act → World → Prop} (w : World) (hgd : o.guard = none) (s x : Operand)
    (ho : o.op = .call { callee := .builtin .append, args := #[s, x], argTypes := #[36, 36] })
    (B : Nat) (v : Value) (L M : List Int) (hs : ac.eval s = v) (hrow : IRow w B v L) (a : Addr) (c : Nat) (hx : ac.eval x = .slice (some a) M.length c) (hm : ∀ j u, (intC M)[j]? = some u → w.cell? (a.add j) = some u) (hlen : L.length + M.length ≤ 100000) (hB : B ≤ w.heap.size)
    (h : ∀ v' w', IRow w' B v' (L ++ M) → Fr (fun k => v.ownBlock = some k) w w' → (∀ k, v'.ownBlock = some k → v.ownBlock = some k ∨ w.heap.size ≤ k) → wpList Try.prog ops Q rest (ac.put o.dst v') w') : wpList Try.prog ops Q (o :: rest) ac w := by
  obtain ⟨v', w', hr, h2, h3, h4⟩ := run_append_int w B o.type v L M hrow a c hm (by omega) hB
  refine wpList_plain hgd fun K hK => ?_
  unfold Oper.wp execOp
  simp only [ho, resolve, invoke, builtin, Sem.run_bind, Sem.run_pure, Result.andThen_ok, List.map_toArray, List.map_cons, List.map_nil, hs, hx, hr]
  exact hK _ _ (h v' w' h2 h3 h4)

theorem one_src {w : World} (a : Nat) (x : Int) (h : w.cell? ⟨a, 0, none⟩ = some (.int .i64 x)) : ∀ j u, (intC [x])[j]? = some u → w.cell? ((⟨a, 0, none⟩ : Addr).add j) = some u := by
  intro j u hu
  rw [Addr.add_lit]
  match j, hu with
  | 0, hu => simp [intC] at hu; subst hu; exact h

theorem slots_step (l : List Sl) (k : Nat) (s : Sl) (hx : l[k]? = some s) : slotsF (l.take (k + 1)) 0 = slotsF (l.take k) 0 ++ (match s with | none => [] | some _ => [(k : Int)]) := by
  have hlt : k < l.length := (List.getElem?_eq_some_iff.1 hx).1
  rw [take_snoc l k s hx, slotsF_append, List.length_take, Nat.min_eq_left (by omega), Nat.zero_add]
  cases s <;> rfl

set_option maxHeartbeats 1600000 in
set_option maxRecDepth 100000 in
theorem slots_any (p : ByteArray) (l : List Sl) (w : World) (c : Calls Try.prog 33 #[.string p] w fun e w' => ∃ v b, e = .returned (.tuple #[v, .bool b]) ∧ Rw 72 cf w' w.heap.size v l ∧ Below w.heap.size w w') (hl : l.length ≤ 1000) (L : List Int) (HL : Hid (slotsF l 0 = L)) :
    Calls Try.prog 21 #[.string p] w fun e w' => ∃ v, e = .returned v ∧ IRow w' w.heap.size v L ∧ Below w.heap.size w w' := by
  go_enter Try.func21, Try.ntmps21
  go_wp2_with fail
  refine c.mono ?_
  rintro e w1 ⟨v, ok, rfl, r1, b1⟩
  clear c
  obtain ⟨sa, sc, rfl, hsc, _⟩ := r1.len
  go_wp2_with fail
  go_loopw [5, 15] (fun st si wr => ∃ k : Nat, k ≤ l.length ∧ si = .int .i64 (k : Int) ∧ IRow wr w1.heap.size st (slotsF (l.take k) 0) ∧ Below w1.heap.size w1 wr) (fun _ si _ => l.length - (intOf si).toNat)
  case atStart => exact ⟨0, Nat.zero_le _, rfl, irow_nil _ _, Below.refl _ _⟩
  case round =>
    obtain ⟨k, hk, rfl, hrow, hb⟩ := hrel
    obtain ⟨ta, tc, rfl, htc, _⟩ := hrow.len
    by_cases hlt : k < l.length
    · have hlt2 : (k : Int) < (l.length : Int) := by omega
      have hx : l[k]? = some l[k] := by simp [hlt]
      generalize l[k] = s at hx
      have hsl := slotsF_len (l.take k) 0
      rw [List.length_take] at hsl
      have hst := slots_step l k s hx
      obtain ⟨b, c', e, _, _, _, hbl, c0, c1, _⟩ := r1.cell hx
      cases e
      generalize slotsF (l.take k) 0 = A at *
      cases s with
      | none =>
        have d0 : wr.cell? ⟨b, k * 2, none⟩ = some (.bool false) := (hb.cell (p := ⟨b, k * 2, none⟩) hbl).trans c0
        have d1 : wr.cell? ⟨b, k * 2 + 1, none⟩ = some (.string ⟨#[]⟩) := (hb.cell (p := ⟨b, k * 2 + 1, none⟩) hbl).trans c1
        have HS : Hid (slotsF (l.take (k + 1)) 0 = A) := by show _ = _; rw [hst]; simp
        clear c0 c1 hst
        go_wp2_with fail
        go_roundw
        case rel => exact ⟨k + 1, by omega, by go_num, by rw [HS.out]; exact hrow.below' (below_alloc1 _ _), below2 hb (below_alloc1 _ _)⟩
        case measure => simp [intOf]; omega
      | some r =>
        have d0 : wr.cell? ⟨b, k * 2, none⟩ = some (.bool true) := (hb.cell (p := ⟨b, k * 2, none⟩) hbl).trans c0
        have d1 : wr.cell? ⟨b, k * 2 + 1, none⟩ = some (.string r) := (hb.cell (p := ⟨b, k * 2 + 1, none⟩) hbl).trans c1
        have HS : Hid (slotsF (l.take (k + 1)) 0 = A ++ [(k : Int)]) := by show _ = _; rw [hst]
        have hb1 := below2 hb (below_alloc1 wr (.cells #[.bool true, .string r] 72))
        have hb2 := below2 hb1 (below_alloc1 _ (.cells #[.int .i64 (k : Int)] 3))
        have hr2 := (hrow.below' (below_alloc1 wr (.cells #[.bool true, .string r] 72))).below' (below_alloc1 _ (.cells #[.int .i64 (k : Int)] 3))
        clear c0 c1 hst
        go_wp2_with (at_builtin; refine wpList_append_int _ rfl _ _ rfl w1.heap.size _ A [(k : Int)] rfl hr2 ⟨wr.heap.size + 1, 0, none⟩ 1 (by simp; rfl) (one_src _ _ (by simp)) (by simp; omega) hb2.size ?_; intro v' w' hrow' hfr hnew)
        go_roundw
        case rel => exact ⟨k + 1, by omega, by go_num, by rw [HS.out]; exact hrow', hfr.below hb2 hb2.size (fun k e => (hrow.blk e).1)⟩
        case measure => simp [intOf]; omega
    · obtain rfl : k = l.length := by omega
      rw [List.take_length] at *
      have HL2 : Hid (slotsF l 0 = L) := HL
      generalize slotsF l 0 = A at *
      go_wp2_with fail
      go_ret
      exact ⟨_, rfl, by rw [← HL2.out]; exact hrow.mono b1.size, below2 b1 hb⟩

set_option maxHeartbeats 800000 in
theorem free_form (p : ByteArray) (w : World) (hp : p.size ≤ 1000000) (h : rd p = none) :
    Calls Try.prog 23 #[.string p] w fun e w' => e = .returned (.int .i64 (-1)) ∧ Below w.heap.size w w' := by
  have c := read_no p w hp h
  clear h
  go_enter Try.func23, Try.ntmps23
  go_wp2_with fail
  refine c.mono ?_
  rintro e w1 ⟨v, rfl, _, b1⟩
  go_wp2_with fail
  go_ret
  exact ⟨rfl, b1⟩

set_option maxHeartbeats 800000 in
set_option maxRecDepth 100000 in
theorem free_any (p : ByteArray) (l : List Sl) (w : World) (hp : p.size ≤ 1000000) (h : rd p = some l) (hF : Fine l) (N : Int) (HN : Hid (freeN l = N)) :
    Calls Try.prog 23 #[.string p] w fun e w' => e = .returned (.int .i64 N) ∧ Below w.heap.size w w' := by
  have hl : l.length ≤ 127 := few hF.room
  have c := read_yes p w l hp h
  have hwl := withF_len l
  have hrw : ∀ r, some r ∈ withF l → r.size ≤ 400 := fun r hr => hF.rows r (withF_mem hr)
  obtain ⟨R, hR⟩ : ∃ R, room (withF l) = R := ⟨_, rfl⟩
  have HR : Hid (room (withF l) = R) := hR
  have HN2 : Hid (max (-1) (min R 400) = N) := by have := HN.out; unfold freeN at this; rw [hR] at this; exact this
  clear h hR HN
  go_enter Try.func23, Try.ntmps23
  go_wp2_with fail
  refine c.mono ?_
  rintro e w1 ⟨v, rfl, r1, b1⟩
  obtain ⟨sa, sc, rfl, hsc, _⟩ := r1.len
  go_wp2_with fail
  refine (withFree_any sa sc l w.heap.size w1 r1 (by omega) b1.size).mono ?_
  rintro e w2 ⟨v2, rfl, r2, b2⟩
  have b02 := b1.trans b2
  obtain ⟨ta, tc, rfl, htc, _⟩ := r2.len
  go_wp2_with fail
  refine (room_any ta tc (withF l) w.heap.size w2 r2 (by omega) hrw R HR).mono ?_
  rintro e w3 ⟨rfl, b3⟩
  go_wp2_with fail
  go_ret
  exact ⟨by rw [← HN2.out]; rfl, b02.trans (b3.mono b02.size)⟩

end Go.Proofs.Ytfgblmbocchddaa

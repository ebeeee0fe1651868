/- Rows of the document's frames: copies of their parts, appends to them. -/
import Derived.Test.YtghocbaafdnddaaGreatRTake
namespace Go.Proofs.YtghocbaafdnddaaGreat
open Go.RowKit

theorem Tryz.info93 : (Tryz.prog.info? 93).map (fun i => (i.zero, i.size, i.bytes)) = some (some (.agg #[.int .i64 0, .int .i64 0, .string ⟨#[]⟩, .bool false]), 4, 40) := by kernel_rfl

theorem fcs_drop (l : List Fm) (k : Nat) : (fcs l).drop (k * 4) = fcs (l.drop k) := by
  have h := List.take_append_drop (k * 4) (fcs l)
  rw [fcs_take] at h
  have e : fcs l = fcs (l.take k) ++ fcs (l.drop k) := by rw [← fcs_append, List.take_append_drop]
  exact List.append_cancel_left (h.trans e)

/-- A row of frames. -/
structure FRow (w : World) (N : Nat) (v : Value) (l : List Fm) : Prop where
  own : w.ownsRow N 93 4 v l.length (fcs l)

section
variable {w w' : World} {N : Nat} {v : Value} {l : List Fm}
theorem FRow.blk (h : FRow w N v l) {k : Nat} (hk : v.ownBlock = some k) : N ≤ k ∧ k < w.heap.size := h.own.lt k hk
theorem FRow.below (h : FRow w N v l) (hb : Below w.heap.size w w') : FRow w' N v l := ⟨owns_kept h.own (fun k e _ => hb.block k (h.blk e).2)⟩
theorem FRow.len (h : FRow w N v l) : ∃ a c, v = .slice a l.length c ∧ l.length ≤ c ∧ c ≤ maxLen := by
  rcases h.own.2 with ⟨rfl, e⟩ | ⟨g, cap, cur, rfl, _, _, c, d, _⟩
  · rw [e]; exact ⟨_, _, rfl, Nat.le_refl _, Nat.zero_le _⟩
  · exact ⟨_, _, rfl, c, d⟩
end

theorem frow_made (w : World) {N : Nat} (hN : N ≤ w.heap.size) : FRow (w.alloc (.cells #[] 93)) N (.slice (some ⟨w.heap.size, 0, none⟩) 0 0) [] :=
  ⟨World.ownsRow_made w #[] 0 hN (Nat.zero_le _) rfl⟩

theorem run_append_fr (w : World) (N : Nat) (ty : TypeId) (v : Value) (A C : List Fm) (h : FRow w N v A) (ad : Addr) (m c : Nat) (hC : C.length = m) (hm : ∀ j u, (fcs C)[j]? = some u → w.cell? (ad.add j) = some u) (hlen : A.length + m ≤ 2000) (hN : N ≤ w.heap.size) :
    ∃ v' w', (Builtin.append_ #[82, 82] ty #[v, .slice (some ad) m c]).run Tryz.prog w = .ok v' w' ∧ FRow w' N v' (A ++ C) ∧ Fr (fun k => v.ownBlock = some k) w w' ∧ ∀ k, v'.ownBlock = some k → v.ownBlock = some k ∨ w.heap.size ≤ k := by
  subst hC
  obtain ⟨i0, hi, hz0, hz1, hz2⟩ := info_parts Tryz.info93
  obtain ⟨v', w', hr, h2, h3, h4⟩ := run_append_own2 (P := Tryz.prog) w N 82 ty 93 i0 _ 4 40 Tryz.underlying82 hi hz0 hz1 hz2 rfl (by decide) v A.length (fcs A) h.own ad C.length c (fcs C) (fcs_len C) hm (fcs_one C) (by unfold maxLen; omega) (by omega) hN
  refine ⟨v', w', hr, ⟨?_⟩, fr_grown h3, h4⟩
  rw [List.length_append, fcs_append]
  exact h2

/-- append of frames, in a list of operations, and as a step. -/
theorem wpList_append_fr {ops : Array Oper} {rest : List Oper} {o : Oper} {ac : Act} {Q : Exit → Act → World → Prop} (w : World) (hgd : o.guard = none) (s x : Operand)
    (ho : o.op = .call { callee := .builtin .append, args := #[s, x], argTypes := #[82, 82] })
    (N : Nat) (v : Value) (A C : List Fm) (hs : ac.eval s = v) (hrow : FRow w N v A) (ad : Addr) (m c : Nat) (hC : C.length = m) (hx : ac.eval x = .slice (some ad) m c) (hm : ∀ j u, (fcs C)[j]? = some u → w.cell? (ad.add j) = some u) (hlen : A.length + m ≤ 2000) (hN : N ≤ w.heap.size)
    (h : ∀ v' w', FRow w' N v' (A ++ C) → Fr (fun k => v.ownBlock = some k) w w' → (∀ k, v'.ownBlock = some k → v.ownBlock = some k ∨ w.heap.size ≤ k) → wpList Tryz.prog ops Q rest (ac.put o.dst v') w') : wpList Tryz.prog ops Q (o :: rest) ac w := by
  obtain ⟨v', w', hr, h2, h3, h4⟩ := run_append_fr w N o.type v A C hrow ad m c hC hm hlen hN
  refine wpList_plain hgd fun K hK => ?_
  unfold Oper.wp execOp
  simp only [ho, resolve, invoke, builtin, Sem.run_bind, Sem.run_pure, Result.andThen_ok, List.map_toArray, List.map_cons, List.map_nil, hs, hx, hr]
  exact hK _ _ (h v' w' h2 h3 h4)

theorem step_append_fr {ops : Array Oper} {o : Oper} {ac : Act} {w : World} {K : Act → World → Prop} {Q : Exit → Act → World → Prop} {E : Prop} (hgd : o.guard = none) (s x : Operand)
    (ho : o.op = .call { callee := .builtin .append, args := #[s, x], argTypes := #[82, 82] })
    (N : Nat) (v : Value) (A C : List Fm) (hs : ac.eval s = v) (hrow : FRow w N v A) (ad : Addr) (m c : Nat) (hC : C.length = m) (hx : ac.eval x = .slice (some ad) m c) (hm : ∀ j u, (fcs C)[j]? = some u → w.cell? (ad.add j) = some u) (hlen : A.length + m ≤ 2000) (hN : N ≤ w.heap.size)
    (h : ∀ v' w', FRow w' N v' (A ++ C) → Fr (fun k => v.ownBlock = some k) w w' → (∀ k, v'.ownBlock = some k → v.ownBlock = some k ∨ w.heap.size ≤ k) → K (ac.put o.dst v') w') :
    if Region.wanted o (yielded ops ac.tmps) = true then Oper.wp Tryz.prog o ac w K Q else E := by
  have hw : Region.wanted o (yielded ops ac.tmps) = true := by simp [Region.wanted, hgd]
  rw [if_pos hw]
  obtain ⟨v', w', hr, h2, h3, h4⟩ := run_append_fr w N o.type v A C hrow ad m c hC hm hlen hN
  unfold Oper.wp execOp
  simp only [ho, resolve, invoke, builtin, Sem.run_bind, Sem.run_pure, Result.andThen_ok, List.map_toArray, List.map_cons, List.map_nil, hs, hx, hr]
  exact h v' w' h2 h3 h4

section
variable {B : Nat} {w w' : World} {y : RX}

/-- The cells of the first k frames, and of those behind them. -/
theorem Rp.first (h : Rp B w y) {ra rc : Nat} (e : y.lv = .slice (some ⟨ra, 0, none⟩) y.l.length rc) (k : Nat) (hk : k ≤ y.l.length) (hb : Below w.heap.size w w') : ∀ j u, (fcs (y.l.take k))[j]? = some u → w'.cell? ((⟨ra, 0, none⟩ : Addr).add j) = some u := by
  intro j u hu
  have hj := (List.getElem?_eq_some_iff.1 hu).1
  rw [fcs_len, List.length_take] at hj
  rw [← fcs_take, List.getElem?_take, if_pos (by omega)] at hu
  have h0 := h.row
  rw [e] at h0
  have hc := h0.cellAt j (by omega)
  rw [hu] at hc
  rw [Addr.add_lit, Nat.zero_add]
  exact (hb.cell (p := ⟨ra, j, none⟩) (h.row.lt ra (by rw [e]; rfl)).2).trans hc

theorem Rp.rest (h : Rp B w y) {ra rc : Nat} (e : y.lv = .slice (some ⟨ra, 0, none⟩) y.l.length rc) (k : Nat) (hk : k ≤ y.l.length) (hc : y.l.length ≤ rc) : ∃ ad : Addr, (if rc = k then some (⟨ra, 0, none⟩ : Addr) else some ⟨ra, k * 4, none⟩) = some ad ∧
    ∀ w', Below w.heap.size w w' → ∀ j u, (fcs (y.l.drop k))[j]? = some u → w'.cell? (ad.add j) = some u := by
  by_cases hr : rc = k
  · rw [if_pos hr]
    refine ⟨_, rfl, fun w' hb j u hu => ?_⟩
    rw [List.drop_of_length_le (by omega)] at hu
    simp [fcs] at hu
  · rw [if_neg hr]
    refine ⟨_, rfl, fun w' hb j u hu => ?_⟩
    have hj := (List.getElem?_eq_some_iff.1 hu).1
    rw [fcs_len, List.length_drop] at hj
    rw [← fcs_drop, List.getElem?_drop] at hu
    have h0 := h.row
    rw [e] at h0
    have hc := h0.cellAt (k * 4 + j) (by omega)
    rw [hu] at hc
    rw [Addr.add_lit]
    exact (hb.cell (p := ⟨ra, k * 4 + j, none⟩) (h.row.lt ra (by rw [e]; rfl)).2).trans hc

/-- Another row is laid. -/
theorem Rp.laid (h : Rp B w y) (hb : Below w.heap.size w w') {N : Nat} {v : Value} {l : List Fm} (hr : FRow w' N v l) (hN : w.heap.size ≤ N) (hB : B ≤ w.heap.size) :
    w'.cell? ⟨y.q, 2, none⟩ = some y.lv ∧ w'.frozen? ⟨y.q, 2, none⟩ = false ∧ RpTo B w y { y with lv := v, l := l } (w'.setCell ⟨y.q, 2, none⟩ v) := by
  have h1 := h.below hb
  obtain ⟨a, b, c⟩ := h1.setLv v l N (owns_low hr.own (by omega)) (fun k e => (hr.blk e).1)
  exact ⟨h1.cell.2.2.1, h1.free? 2, ⟨a, (RpTo.of_below h hb).fr.trans b (fun _ _ e => e), rfl, rfl, rfl, fun k e => (c k e).imp id (fun q => Nat.le_trans hN q)⟩⟩

theorem erase_cut (l : List Fm) (i : Nat) : l.take i ++ l.drop (i + 1) = l.eraseIdx i := (List.eraseIdx_eq_take_drop_succ l i).symm

/-- A cell of a frame is set. -/
theorem Rp.setF (h : Rp B w y) {i b c : Nat} {f g : Fm} (hi : y.l[i]? = some f) (e : y.lv = .slice (some ⟨b, 0, none⟩) y.l.length c) (o : Nat) (u : Value) (ho : o < 4) (hg : (fc4 f).set o u = fc4 g) : RpTo B w y { y with l := y.l.set i g } (w.setCell ⟨b, i * 4 + o, none⟩ u) := by
  have hlt : i < y.l.length := (List.getElem?_eq_some_iff.1 hi).1
  have h0 := h.row
  rw [e] at h0
  have hq : b ≠ y.q := by
    rintro rfl
    have t := own_tag h.row (k := y.q) (by rw [e]; rfl)
    rw [h.pool] at t
    simp [tagOf] at t
  have hs := (h0.stored (i * 4 + o) u).1
  have hset : (fcs y.l).set (i * 4 + o) u = fcs (y.l.set i g) := by
    clear h h0 hs hq e hlt
    generalize y.l = l at hi
    induction l generalizing i with
    | nil => simp at hi
    | cons x l ih =>
      cases i with
      | zero =>
        simp at hi
        subst hi
        rw [List.set_cons_zero, fcs, fcs, Nat.zero_mul, Nat.zero_add, List.set_append_left _ _ (by simpa [fc4] using ho), hg]
      | succ i =>
        simp at hi
        rw [List.set_cons_succ, fcs, fcs, List.set_append_right _ _ (by simp [fc4]; omega), ← ih hi]
        congr 2
        simp [fc4]
        omega
  rw [hset, ← List.length_set (i := i) (a := g)] at hs
  have hf : Fr (fun k => k = b) w (w.setCell ⟨b, i * 4 + o, none⟩ u) := fr_set w b _ u
  have hbB : ∀ k, rfoot y.g y.h k → k ≠ b := fun k hk z => h.apart (Or.inr (by rw [e, z]; rfl)) hk
  refine ⟨⟨(hf.block _ (lt_of_some h.pool) (Ne.symm hq)).trans h.pool, ?_, h.qB, h.dev.kept (fun k hk => hf.block k (h.dev.lt k hk) (hbB k hk))⟩, Fr.set (F := y.ft) (Fr.refl _ _) (p := ⟨b, i * 4 + o, none⟩) (Or.inl (Or.inl (Or.inr (by rw [e]; rfl)))) _, rfl, rfl, rfl, fun _ q => Or.inl q⟩
  show (w.setCell ⟨b, i * 4 + o, none⟩ u).ownsRow B 93 4 y.lv (y.l.set i g).length (fcs (y.l.set i g))
  rw [e]
  rw [List.length_set] at hs ⊢
  exact hs

/-- What is known where a frame is cut out. -/
structure Cut (w : World) (q : Nat) (l : List Fm) (i m n ra rc : Nat) (ad : Addr) : Prop where
  lt : i < n
  hn : l.length = n
  hm : i + 1 = m
  hrc : n ≤ rc
  had : (if rc = m then some (⟨ra, 0, none⟩ : Addr) else some ⟨ra, m * 4, none⟩) = some ad
  s1 : ∀ w', Below w.heap.size w w' → ∀ j u, (fcs (l.take i))[j]? = some u → w'.cell? ((⟨ra, 0, none⟩ : Addr).add j) = some u
  s2 : ∀ w', Below w.heap.size w w' → ∀ j u, (fcs (l.drop m))[j]? = some u → w'.cell? (ad.add j) = some u
  ce : ∀ w', Below w.heap.size w w' → w'.cell? ⟨q, 2, none⟩ = some (.slice (some ⟨ra, 0, none⟩) n rc)
  l1 : (l.take i).length = i
  l2 : (l.drop m).length = n - m
  l3 : l.take i ++ l.drop m = l.eraseIdx i
  wm : IntKind.i64.wrap ((i : Int) + 1) = (m : Int)

theorem Rp.cut (h : Rp B w y) (hl : y.l.length ≤ 1000) {i : Nat} {f : Fm} (hi : y.l[i]? = some f) {ra rc : Nat} (e : y.lv = .slice (some ⟨ra, 0, none⟩) y.l.length rc) (hsc : y.l.length ≤ rc) : ∃ ad, Cut w y.q y.l i (i + 1) y.l.length ra rc ad := by
  have hlt : i < y.l.length := (List.getElem?_eq_some_iff.1 hi).1
  obtain ⟨_, _, c2, _, _⟩ := h.cell
  obtain ⟨ad, hA, src⟩ := h.rest e (i + 1) (by omega) hsc
  rw [e] at c2
  exact ⟨ad, hlt, rfl, rfl, hsc, hA, fun _ hb => h.first e i (by omega) hb, src, fun _ hb => (hb.cell (p := ⟨y.q, 2, none⟩) (h.ltOwn (Or.inl rfl))).trans c2, by rw [List.length_take]; omega, List.length_drop, erase_cut _ _, by rw [IntKind.wrap_i64]; omega⟩

theorem set_last (A : List Fm) (f g : Fm) : (A ++ [f]).set A.length g = A ++ [g] := by simp
end
end Go.Proofs.YtghocbaafdnddaaGreat

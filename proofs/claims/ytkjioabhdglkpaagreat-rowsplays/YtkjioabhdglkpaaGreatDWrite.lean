/- Write. -/
import Derived.Test.YtkjioabhdglkpaaGreatDNew
import Derived.BigRegion
import Derived.Deep.RegionLaw
namespace Go.Proofs.YtkjioabhdglkpaaGreat
open Go.RowKit

theorem Tryz.info111 : (Tryz.prog.info? 111).map (fun i => (i.zero, i.size, i.bytes)) = some (some (.agg #[.int .i64 0, .string ⟨#[]⟩]), 2, 24) := by kernel_rfl

theorem has_yes {B : Nat} {w : World} {g gs : Nat} {hv : Value} {D : DS} (h : Dev B w g gs hv D) (i : Nat) (hi : i < D.n) : Calls Tryz.prog 99 #[.pointer (some ⟨g, 0, none⟩), .int .i64 (i : Int)] w fun e w' => e = .returned (.bool true) ∧ w' = w := by
  have cH := has_any h (i : Int)
  rw [show (decide (0 ≤ (i : Int)) && decide ((i : Int) < (D.n : Int))) = true by simp; omega] at cH
  exact cH

theorem has_no {B : Nat} {w : World} {g gs : Nat} {hv : Value} {D : DS} (h : Dev B w g gs hv D) (x : Int) (hx : ¬ (0 ≤ x ∧ x < (D.n : Int))) : Calls Tryz.prog 99 #[.pointer (some ⟨g, 0, none⟩), .int .i64 x] w fun e w' => e = .returned (.bool false) ∧ w' = w := by
  have cH := has_any h x
  rw [show (decide (0 ≤ x) && decide (x < (D.n : Int))) = false by rw [Bool.and_eq_false_iff]; by_cases h0 : 0 ≤ x; exact Or.inr (by simpa [h0] using hx); exact Or.inl (by simpa using h0)] at cH
  exact cH

set_option maxHeartbeats 400000 in
theorem write_place {B : Nat} {w : World} {g gs : Nat} {hv : Value} {D : DS} (h : Dev B w g gs hv D) (x : Int) (s : ByteArray) (hx : ¬ (0 ≤ x ∧ x < (D.n : Int))) :
    Calls Tryz.prog 74 #[.pointer (some ⟨g, 0, none⟩), .int .i64 x, .string s] w fun e w' => e = .returned (.int .i64 40) ∧ w' = w := by
  have cH := has_no h x hx
  go_enter Tryz.func74, Tryz.ntmps74
  go_wp2_with fail
  refine cH.mono ?_
  rintro e w1 ⟨rfl, h1⟩
  rw [h1]
  go_wp2_with fail
  go_ret
  exact ⟨rfl, rfl⟩

set_option maxHeartbeats 400000 in
theorem write_long {B : Nat} {w : World} {g gs : Nat} {hv : Value} {D : DS} (h : Dev B w g gs hv D) (i : Nat) (hi : i < D.n) (s : ByteArray) (hs : s.size ≠ 512) :
    Calls Tryz.prog 74 #[.pointer (some ⟨g, 0, none⟩), .int .i64 (i : Int), .string s] w fun e w' => e = .returned (.int .i64 2) ∧ w' = w := by
  have cH := has_yes h i hi
  have d1 : ((s.size : Int) == 512) = false := by rw [beq_eq_false_iff_ne]; omega
  go_enter Tryz.func74, Tryz.ntmps74
  go_wp2_with fail
  refine cH.mono ?_
  rintro e w1 ⟨rfl, h1⟩
  rw [h1]
  go_wp2_with fail
  go_ret
  exact ⟨rfl, rfl⟩

set_option maxHeartbeats 400000 in
theorem write_down {B : Nat} {w : World} {g gs : Nat} {hv : Value} {D : DS} (h : Dev B w g gs hv D) (i : Nat) (hi : i < D.n) (s : ByteArray) (hs : s.size = 512) (hl : D.left = 0) :
    Calls Tryz.prog 74 #[.pointer (some ⟨g, 0, none⟩), .int .i64 (i : Int), .string s] w fun e w' => e = .returned (.int .i64 41) ∧ w' = w := by
  have cH := has_yes h i hi
  have cD := down_any h
  rw [hl] at cD
  have d1 : ((s.size : Int) == 512) = true := by rw [hs]; rfl
  go_enter Tryz.func74, Tryz.ntmps74
  go_wp2_with fail
  refine cH.mono ?_
  rintro e w1 ⟨rfl, h1⟩
  rw [h1]
  go_wp2_with fail
  refine cD.mono ?_
  rintro e w2 ⟨rfl, h2⟩
  rw [h2]
  go_wp2_with fail
  go_ret
  exact ⟨rfl, rfl⟩

set_option maxHeartbeats 400000 in
theorem write_broken {B : Nat} {w : World} {g gs : Nat} {hv : Value} {D : DS} (h : Dev B w g gs hv D) (i : Nat) (hi : i < D.n) (s : ByteArray) (hs : s.size = 512) (hl : D.left ≠ 0) (hn : D.next = 1) :
    Calls Tryz.prog 74 #[.pointer (some ⟨g, 0, none⟩), .int .i64 (i : Int), .string s] w fun e w' => e = .returned (.int .i64 42) ∧ Dev B w' g gs hv { D with next := 0 } ∧ Fr (foot g gs hv) w w' := by
  have cH := has_yes h i hi
  have cD := down_any h
  rw [show (D.left == 0) = false by simpa using hl] at cD
  have d1 : ((s.size : Int) == 512) = true := by rw [hs]; rfl
  have c4 := h.cell.2.2.2.2
  have f4 := h.free.1 4
  rw [hn] at c4
  go_enter Tryz.func74, Tryz.ntmps74
  go_wp2_with fail
  refine cH.mono ?_
  rintro e w1 ⟨rfl, h1⟩
  rw [h1]
  go_wp2_with fail
  refine cD.mono ?_
  rintro e w2 ⟨rfl, h2⟩
  rw [h2]
  go_wp2_with fail
  refine (aadd_any _ 1 _ 0 w c4 f4 rfl (by omega) (by omega)).mono ?_
  rintro e w3 ⟨rfl, h3⟩
  rw [h3]
  go_wp2_with fail
  go_ret
  exact ⟨rfl, h.setNext 0, (Fr.refl _ _).set (Or.inl (Or.inl rfl)) _⟩

/-- append to a row of the call's own: the row behind it is the same block, or a new one. -/
theorem run_append_own2 {P : Program} (w : World) (base : Nat) (t ty e : TypeId) (i : TypeInfo) (z : Value) (size bytes : Nat) (ht : P.underlying t = some (.slice e)) (hi : P.info? e = some i) (hz : i.zero = some z)
    (hsize : i.size = size) (hby : i.bytes = bytes) (hzs : z.cells.size = size) (hsz : 0 < size)
    (v : Value) (n : Nat) (xs : List Value) (hown : w.ownsRow base e size v n xs)
    (a : Addr) (m c : Nat) (news : List Value) (hl : news.length = m * size) (hnews : ∀ j u, news[j]? = some u → w.cell? (a.add j) = some u) (h1 : ∀ u ∈ news, u.oneCell' = true)
    (h63 : n + m ≤ maxLen) (hbytes : (n + m) * bytes ≤ 140737488355328) (hbase : base ≤ w.heap.size) :
    ∃ v' w', (Builtin.append_ #[t, t] ty #[v, .slice (some a) m c]).run P w = .ok v' w' ∧ w'.ownsRow base e size v' (n + m) (xs ++ news) ∧ w.grownBy w' v.ownBlock ∧ ∀ k, v'.ownBlock = some k → v.ownBlock = some k ∨ w.heap.size ≤ k := by
  obtain ⟨v', w', hr, h2, h3, _⟩ := run_append_own (P := P) w base t ty e i z size bytes ht hi hz hsize hby hzs hsz v n xs hown a m c news hl hnews h1 h63 hbytes hbase
  refine ⟨v', w', hr, h2, h3, fun k hk => ?_⟩
  have h0 := hown
  rcases hown.2 with ⟨rfl, rfl⟩ | ⟨g, cap, cur, rfl, hbg, hg, hnc, hcm, hcs, htake⟩
  · have hx : xs = [] := List.eq_nil_of_length_eq_zero (by simpa using hown.1)
    subst hx
    obtain ⟨v2, w2, hr2, h4, _⟩ := run_append_own (P := P) w w.heap.size t ty e i z size bytes ht hi hz hsize hby hzs hsz (.slice none 0 0) 0 [] (World.ownsRow_nil _ _ _ _) a m c news hl hnews h1 h63 hbytes (Nat.le_refl _)
    rw [hr] at hr2
    injection hr2 with e1 e2
    subst e1 e2
    exact Or.inr (h4.lt k hk).1
  · by_cases hroom : n + m ≤ cap
    · obtain ⟨w2, hr2, _⟩ := run_append_fits (P := P) w base t ty e i size ht hi hsize g n cap xs h0 a m c news hl hnews h1 hroom
      rw [hr] at hr2
      injection hr2 with e1 e2
      subst e1 e2
      exact Or.inl hk
    · obtain ⟨v2, w2, hr2, h4, _⟩ := run_append_arg_grows (P := P) w t ty e i z size bytes ht hi hz hsize hby hzs hsz ⟨g, 0, none⟩ n cap xs h0.1 (h0.cells (g := g) rfl) a m c news hl hnews (by omega) h63 hbytes
      rw [hr] at hr2
      injection hr2 with e1 e2
      subst e1 e2
      exact Or.inr (h4.lt k hk).1

/-- append to a row of the call's own, as one step of a region that draws. -/
theorem step_append_own {P : Program} {ops : Array Oper} {o : Oper} {a : Act} {w : World} {K : Act → World → Prop} {Q : Exit → Act → World → Prop} {E : Prop} (hgd : o.guard = none) (s x : Operand) (t : TypeId)
    (ho : o.op = .call { callee := .builtin .append, args := #[s, x], argTypes := #[t, t] })
    (base : Nat) (e : TypeId) (i : TypeInfo) (z : Value) (size bytes : Nat) (ht : P.underlying t = some (.slice e)) (hi : P.info? e = some i) (hz : i.zero = some z)
    (hsize : i.size = size) (hby : i.bytes = bytes) (hzs : z.cells.size = size) (hsz : 0 < size)
    (v : Value) (n : Nat) (xs : List Value) (hs : a.eval s = v) (hown : w.ownsRow base e size v n xs)
    (ad : Addr) (m c : Nat) (news : List Value) (hx : a.eval x = .slice (some ad) m c) (hl : news.length = m * size) (hnews : ∀ j u, news[j]? = some u → w.cell? (ad.add j) = some u) (h1 : ∀ u ∈ news, u.oneCell' = true)
    (h63 : n + m ≤ maxLen) (hbytes : (n + m) * bytes ≤ 140737488355328) (hbase : base ≤ w.heap.size)
    (h : ∀ v' w', w'.ownsRow base e size v' (n + m) (xs ++ news) → w.grownBy w' v.ownBlock → (∀ k, v'.ownBlock = some k → v.ownBlock = some k ∨ w.heap.size ≤ k) → K (a.put o.dst v') w') :
    if Region.wanted o (yielded ops a.tmps) = true then Oper.wp P o a w K Q else E := by
  have hw : Region.wanted o (yielded ops a.tmps) = true := by simp [Region.wanted, hgd]
  rw [if_pos hw]
  obtain ⟨v', w', hr, h2, h3, h4⟩ := run_append_own2 (P := P) w base t o.type e i z size bytes ht hi hz hsize hby hzs hsz v n xs hown ad m c news hl hnews h1 h63 hbytes hbase
  unfold Oper.wp execOp
  simp only [ho, resolve, invoke, builtin, Sem.run_bind, Sem.run_pure, Result.andThen_ok, List.map_toArray, List.map_cons, List.map_nil, hs, hx, hr]
  exact h v' w' h2 h3 h4

theorem owns_slice {w : World} {base e size : Nat} {v : Value} {n : Nat} {xs : List Value} (h : w.ownsRow base e size v n xs) : ∃ a n c, v = .slice a n c := by
  rcases h.2 with ⟨rfl, _⟩ | ⟨g, cap, cur, rfl, _⟩
  · exact ⟨_, _, _, rfl⟩
  · exact ⟨_, _, _, rfl⟩

theorem new2 {w : World} {p q : Value} {t : TypeId} {H : Nat} (hH : w.heap.size = H) : ∀ j u, [p, q][j]? = some u → (w.alloc (.cells #[p, q] t)).cell? ((⟨H, 0, none⟩ : Addr).add j) = some u := by
  subst hH
  intro j u h
  match j, h with
  | 0, h => simp at h; subst h; simp [Addr.add]
  | 1, h => simp at h; subst h; simp [Addr.add]

/-- One write more is held back. -/
theorem Dev.pushed {B : Nat} {w w' : World} {g gs : Nat} {hv hv' : Value} {D : DS} (h : Dev B w g gs hv D) (hg : w.grownBy w' hv.ownBlock) (L : List (Nat × ByteArray)) (ho : w'.ownsRow B 111 2 hv' L.length (hcells L)) :
    Dev B (w'.setCell ⟨g, 1, none⟩ hv') g gs hv' { D with held := L } := by
  obtain ⟨cur, h1, h2, h3⟩ := h.sec
  have eg : w'.heap[g]? = w.heap[g]? := hg.block g (h.lt g (Or.inl rfl)) (Ne.symm h.ng)
  have es : w'.heap[gs]? = w.heap[gs]? := hg.block gs (h.lt gs (Or.inr (Or.inl rfl))) (Ne.symm h.ns)
  have ty : ∀ k, hv'.ownBlock = some k → ∃ cur, w'.heap[k]? = some (.cells cur 111 (0, 0)) := by
    intro k hk
    rcases ho.2 with ⟨rfl, _⟩ | ⟨b, cap, cur, rfl, _, hb, _⟩
    · simp [Value.ownBlock] at hk
    · simp [Value.ownBlock] at hk
      subst hk
      exact ⟨cur, hb⟩
  have ng : hv'.ownBlock ≠ some g := fun e => by
    obtain ⟨c, hc⟩ := ty g e
    rw [eg, h.dev] at hc
    simp at hc
  have ns : hv'.ownBlock ≠ some gs := fun e => by
    obtain ⟨c, hc⟩ := ty gs e
    rw [es, h1] at hc
    simp at hc
  refine ⟨by simpa using heap_setCell_same w' g 1 _ _ hv' (eg.trans h.dev), ⟨cur, ?_, h2, h3⟩, owns_kept ho (fun k e _ => Below.heap_setCell _ _ _ _ (by rintro rfl; exact ng e)), h.gB, h.sB, h.ne, ng, ns⟩
  rw [Below.heap_setCell _ _ _ _ (Ne.symm h.ne)]
  exact es.trans h1

theorem Fr.grown {F : Nat → Prop} {w w1 w2 : World} {row : Option Nat} (h : Fr F w w1) (hg : w1.grownBy w2 row) (hr : ∀ k, row = some k → F k ∨ w.heap.size ≤ k) : Fr F w w2 :=
  ⟨hg.os.trans h.os, hg.tape.trans h.tape, hg.output.trans h.output, Nat.le_trans h.size hg.size, fun k hk hF => (hg.block k (Nat.lt_of_lt_of_le hk h.size) (fun e => by
    rcases hr k e.symm with r | r
    · exact hF r
    · omega)).trans (h.block k hk hF)⟩

/-- A write that is OK. -/
def DS.wrote (D : DS) (i : Nat) (s : ByteArray) : DS := { D with seen := upd D.seen i s, held := D.held ++ [(i, s)], ops := D.ops + 1, left := D.left - 1, next := D.next - 1 }

set_option maxHeartbeats 1600000 in
set_option maxRecDepth 100000 in
theorem write_ok {B : Nat} {w : World} {g gs : Nat} {hv : Value} {D : DS} (h : Dev B w g gs hv D) (i : Nat) (hi : i < D.n) (s : ByteArray) (hs : s.size = 512) (hl : D.left ≠ 0) (hn : D.next ≠ 1)
    (hB : B ≤ w.heap.size) (b1 : 0 ≤ D.ops ∧ D.ops ≤ 100000000) (b2 : -100000000 ≤ D.left ∧ D.left ≤ 9223372036854775807) (b3 : -100000000 ≤ D.next ∧ D.next ≤ 9223372036854775807) (b4 : D.held.length ≤ 100000000) :
    Calls Tryz.prog 74 #[.pointer (some ⟨g, 0, none⟩), .int .i64 (i : Int), .string s] w fun e w' => e = .returned (.int .i64 0) ∧ ∃ hv', Dev B w' g gs hv' (D.wrote i s) ∧ Fr (foot g gs hv) w w' ∧ ∀ k, hv'.ownBlock = some k → hv.ownBlock = some k ∨ w.heap.size ≤ k := by
  obtain ⟨i0, hi0, hz0, hz1, hz2⟩ := info_parts Tryz.info111
  have cH := has_yes h i hi
  have cD := down_any h
  rw [show (D.left == 0) = false by simpa using hl] at cD
  have d1 : ((s.size : Int) == 512) = true := by rw [hs]; rfl
  have c4 := h.cell.2.2.2.2
  have f4 := h.free.1 4
  have d4 : (D.next - 1 == 0) = false := by rw [beq_eq_false_iff_ne]; omega
  have hi2 : (i : Int) < (D.n : Int) := by omega
  have h1 := h.setNext (D.next - 1)
  have fr1 : Fr (foot g gs hv) w (w.setCell ⟨g, 4, none⟩ (.int .i64 (D.next - 1))) := (Fr.refl _ _).set (Or.inl (Or.inl rfl)) _
  go_enter Tryz.func74, Tryz.ntmps74
  go_wp2_with fail
  refine cH.mono ?_
  rintro e w1 ⟨rfl, e1⟩
  rw [e1]
  go_wp2_with fail
  refine cD.mono ?_
  rintro e w2 ⟨rfl, e2⟩
  rw [e2]
  go_wp2_with fail
  refine (aadd_any _ D.next _ (D.next - 1) w c4 f4 (by omega) (by omega) (by omega)).mono ?_
  rintro e w3 ⟨rfl, e3⟩
  rw [e3]
  go_wp2_with fail
  refine (clone_any s _ (by omega)).mono ?_
  rintro e w4 ⟨rfl, hb4⟩
  have h4 := h1.below hb4
  have h5 := h4.below (below_alloc1 w4 (.cells #[.int .i64 (i : Int), .string s] 111))
  have fr4 := fr1.trans (G := foot g gs hv) (.of_below hb4) (fun _ _ g => g)
  have fr5 := fr4.alloc (.cells #[.int .i64 (i : Int), .string s] 111)
  have c50 := h5.cell.1
  have c51 := h5.cellSeen i hi
  have f51 := h5.free.2 (i * 2 + 1)
  have n50 : w4.heap.size ≠ g := fun e => by have := h4.lt g (Or.inl rfl); omega
  have n51 : w4.heap.size ≠ gs := fun e => by have := h4.lt gs (Or.inr (Or.inl rfl)); omega
  clear c4 f4 cH cD e1 e2 e3
  go_wp2_with fail
  go_region
  have h6 : Dev B (((w4.alloc (.cells #[.int .i64 (i : Int), .string s] 111)).setCell ⟨gs, i * 2 + 1, none⟩ (.string s)).drew) g gs hv { D with seen := upd D.seen i s, next := D.next - 1 } := (h5.setSeen i s).kept (fun _ _ => rfl)
  have fr6 : Fr (foot g gs hv) w (((w4.alloc (.cells #[.int .i64 (i : Int), .string s] 111)).setCell ⟨gs, i * 2 + 1, none⟩ (.string s)).drew) := (fr5.set (Or.inl (Or.inr (Or.inl rfl))) _).drew
  have cN0 : (((w4.alloc (.cells #[.int .i64 (i : Int), .string s] 111)).setCell ⟨gs, i * 2 + 1, none⟩ (.string s)).drew).cell? ⟨w4.heap.size, 0, none⟩ = some (.int .i64 (i : Int)) := by go_simp
  have cN1 : (((w4.alloc (.cells #[.int .i64 (i : Int), .string s] 111)).setCell ⟨gs, i * 2 + 1, none⟩ (.string s)).drew).cell? ⟨w4.heap.size, 1, none⟩ = some (.string s) := by go_simp
  generalize (((w4.alloc (.cells #[.int .i64 (i : Int), .string s] 111)).setCell ⟨gs, i * 2 + 1, none⟩ (.string s)).drew) = W at h6 fr6 cN0 cN1 ⊢
  generalize w4.heap.size = H4 at cN0 cN1 ⊢
  clear c50 c51 f51 n50 n51 h5 fr5 h4 fr4 hb4 h1 fr1
  have c61 := h6.cell.2.1
  have h7 : Dev B (W.drew.alloc (.cells #[.int .i64 (i : Int), .string s] 111)) g gs hv { D with seen := upd D.seen i s, next := D.next - 1 } := (h6.kept (w' := W.drew) (fun _ _ => rfl)).below (below_alloc1 W.drew _)
  have fr7 : Fr (foot g gs hv) w (W.drew.alloc (.cells #[.int .i64 (i : Int), .string s] 111)) := fr6.drew.alloc _
  have hown7 : Hid ((W.drew.alloc (.cells #[.int .i64 (i : Int), .string s] 111)).ownsRow B 111 2 hv D.held.length (hcells D.held)) := h7.own
  have hnews : Hid (∀ j u, [Value.int .i64 (i : Int), .string s][j]? = some u → (W.drew.alloc (.cells #[.int .i64 (i : Int), .string s] 111)).cell? ((⟨W.heap.size, 0, none⟩ : Addr).add j) = some u) := by
    exact new2 (w := W.drew) rfl
  have hbase7 : B ≤ (W.drew.alloc (.cells #[.int .i64 (i : Int), .string s] 111)).heap.size := Nat.le_trans hB fr7.size
  have hsz7 := fr7.size
  have fin : ∀ v8 w8, w8.ownsRow B 111 2 v8 (D.held.length + 1) (hcells D.held ++ [.int .i64 (i : Int), .string s]) → (W.drew.alloc (.cells #[.int .i64 (i : Int), .string s] 111)).grownBy w8 hv.ownBlock → (∀ k, v8.ownBlock = some k → hv.ownBlock = some k ∨ (W.drew.alloc (.cells #[.int .i64 (i : Int), .string s] 111)).heap.size ≤ k) →
      (∃ a n c, v8 = .slice a n c) ∧ w8.cell? ⟨g, 1, none⟩ = some hv ∧ w8.frozen? ⟨g, 1, none⟩ = false ∧ Hid (Dev B (w8.setCell ⟨g, 1, none⟩ v8) g gs v8 { D with seen := upd D.seen i s, next := D.next - 1, held := D.held ++ [(i, s)] } ∧ Fr (foot g gs hv) w (w8.setCell ⟨g, 1, none⟩ v8) ∧ ∀ k, v8.ownBlock = some k → hv.ownBlock = some k ∨ w.heap.size ≤ k) := by
    intro v8 w8 ho8 hg8 hk8
    refine ⟨owns_slice ho8, hg8.cell h7.cell.2.1 (Ne.symm h7.ng), ?_, ⟨h7.pushed hg8 (D.held ++ [(i, s)]) ?_, (fr7.grown hg8 (fun k hk => Or.inl (Or.inr (Or.inr hk)))).set (Or.inl (Or.inl rfl)) _, fun k hk => ?_⟩⟩
    · rw [World.frozen?_of_block (w := W.drew.alloc (.cells #[.int .i64 (i : Int), .string s] 111)) (hg8.block g (h7.lt g (Or.inl rfl)) (Ne.symm h7.ng))]
      exact h7.free.1 1
    · rw [hcells_append, List.length_append]
      exact ho8
    · rcases hk8 k hk with r | r
      · exact Or.inl r
      · exact Or.inr (Nat.le_trans hsz7 r)
  have cA : (W.alloc (.cells #[.int .i64 (i : Int), .string s] 111)).cell? ⟨g, 1, none⟩ = some hv := ((below_alloc1 W _).cell (World.block_lt_of_cell? W _ c61)).trans c61
  have cA0 : (W.alloc (.cells #[.int .i64 (i : Int), .string s] 111)).cell? ⟨H4, 0, none⟩ = some (.int .i64 (i : Int)) := ((below_alloc1 W _).cell (World.block_lt_of_cell? W _ cN0)).trans cN0
  have cA1 : (W.alloc (.cells #[.int .i64 (i : Int), .string s] 111)).cell? ⟨H4, 1, none⟩ = some (.string s) := ((below_alloc1 W _).cell (World.block_lt_of_cell? W _ cN1)).trans cN1
  clear h7 fr7 h6 fr6
  go_wp2_with fail
  go_region_law (refine step_append_own rfl (.tmp 45) (.tmp 47) 102 rfl B 111 i0 _ 2 24 Tryz.underlying102 hi0 hz0 hz1 hz2 rfl (by decide) hv D.held.length (hcells D.held) (by simp [Act.eval]) hown7.out ⟨W.heap.size, 0, none⟩ 1 1 [.int .i64 (i : Int), .string s] (by simp [Act.eval]) rfl hnews.out (by intro u hu; simp at hu; rcases hu with rfl | rfl <;> rfl) (by unfold maxLen; omega) (by omega) hbase7 ?_; intro v8 w8 ho8 hg8 hk8; obtain ⟨⟨a8, l8, p8, rfl⟩, c8, f8, hfin⟩ := fin v8 w8 ho8 hg8 hk8)
  all_goals
    obtain ⟨h9, fr9, gr9⟩ := hfin.out
    go_wp2_with fail
    refine (count_any h9 b1 b2.1 b2.2).mono ?_
    rintro e w9 ⟨rfl, h10, fr10⟩
    go_wp2_with fail
    go_ret
    refine ⟨rfl, _, h10, fr9.trans fr10 ?_, gr9⟩
    rintro k hk (r | r | r)
    · exact Or.inl r
    · exact Or.inr (Or.inl r)
    · rcases gr9 k r with q | q
      · exact Or.inr (Or.inr q)
      · omega

end Go.Proofs.YtkjioabhdglkpaaGreat

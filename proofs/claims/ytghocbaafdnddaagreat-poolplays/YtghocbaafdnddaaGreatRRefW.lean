/- The document's device: Write and Flush that are OK. -/
import Derived.Test.YtghocbaafdnddaaGreatRRefOps
namespace Go.Proofs.YtghocbaafdnddaaGreat
open Go.RowKit

theorem wpList_append_own2 {P : Program} (w : World) {ops : Array Oper} {rest : List Oper} {o : Oper} {a : Act} {Q : Exit → Act → World → Prop} (hgd : o.guard = none) (s x : Operand) (t : TypeId)
    (ho : o.op = .call { callee := .builtin .append, args := #[s, x], argTypes := #[t, t] })
    (base : Nat) (e : TypeId) (i : TypeInfo) (z : Value) (size bytes : Nat) (ht : P.underlying t = some (.slice e)) (hi : P.info? e = some i) (hz : i.zero = some z)
    (hsize : i.size = size) (hby : i.bytes = bytes) (hzs : z.cells.size = size) (hsz : 0 < size)
    (v : Value) (n : Nat) (xs : List Value) (hs : a.eval s = v) (hown : w.ownsRow base e size v n xs)
    (ad : Addr) (m c : Nat) (news : List Value) (hx : a.eval x = .slice (some ad) m c) (hl : news.length = m * size) (hnews : ∀ j u, news[j]? = some u → w.cell? (ad.add j) = some u) (h1 : ∀ u ∈ news, u.oneCell' = true)
    (h63 : n + m ≤ maxLen) (hbytes : (n + m) * bytes ≤ 140737488355328) (hbase : base ≤ w.heap.size)
    (h : ∀ v' w', w'.ownsRow base e size v' (n + m) (xs ++ news) → w.grownBy w' v.ownBlock → (∀ k, v'.ownBlock = some k → v.ownBlock = some k ∨ w.heap.size ≤ k) → wpList P ops Q rest (a.put o.dst v') w') : wpList P ops Q (o :: rest) a w := by
  refine wpList_plain hgd fun K hK => ?_
  obtain ⟨v', w', hr, h2, h3, h4⟩ := run_append_own2 (P := P) w base t o.type e i z size bytes ht hi hz hsize hby hzs hsz v n xs hown ad m c news hl hnews h1 h63 hbytes hbase
  unfold Oper.wp execOp
  simp only [ho, resolve, invoke, builtin, Sem.run_bind, Sem.run_pure, Result.andThen_ok, List.map_toArray, List.map_cons, List.map_nil, hs, hx, hr]
  exact hK _ _ (h v' w' h2 h3 h4)

/-- A write that is OK. -/
def RS.wrote (Q : RS) (i : Nat) (s : ByteArray) : RS := RS.counted { Q with refuse := if 0 < Q.refuse then Q.refuse - 1 else Q.refuse, seen := upd Q.seen i s, held := Q.held ++ [(i, s)] }

theorem fr_rnew {g : Nat} {h h' : RH} {w w1 w2 : World} (fr : Fr (rfoot g h) w w1) (f2 : Fr (rfoot g h') w1 w2) (gr : ∀ k, rfoot g h' k → rfoot g h k ∨ w.heap.size ≤ k) : Fr (rfoot g h) w w2 :=
  fr.trans f2 (fun k hk r => by rcases gr k r with q | q; exact q; omega)

/-- Behind the append: all that is wanted. -/
theorem rpush_fin {B : Nat} {w W3 w8 : World} {g : Nat} {h : RH} {Q : RS} {v8 : Value} {i : Nat} {s : ByteArray} (r3 : RDev B W3 g h Q) (fr3 : Fr (rfoot g h) w W3)
    (ho8 : w8.ownsRow B 100 2 v8 (Q.held.length + 1) (hcells Q.held ++ [.int .i64 (i : Int), .string s])) (hg8 : W3.grownBy w8 h.hv.ownBlock) (hk8 : ∀ k, v8.ownBlock = some k → h.hv.ownBlock = some k ∨ W3.heap.size ≤ k) :
    (∃ a n c, v8 = .slice a n c) ∧ w8.cell? ⟨g, 2, none⟩ = some h.hv ∧ w8.frozen? ⟨g, 2, none⟩ = false ∧
    Hid (RDev B (w8.setCell ⟨g, 2, none⟩ v8) g { h with hv := v8 } { Q with held := Q.held ++ [(i, s)] } ∧ Fr (rfoot g h) w (w8.setCell ⟨g, 2, none⟩ v8) ∧ ∀ k, rfoot g { h with hv := v8 } k → rfoot g h k ∨ w.heap.size ≤ k) := by
  obtain ⟨_, _, n3, _⟩ := r3.ng
  refine ⟨owns_slice ho8, hg8.cell r3.cell.2.2.1 (Ne.symm n3), ?_, ⟨r3.pushed hg8 v8 (Q.held ++ [(i, s)]) ?_, (fr3.grown hg8 (fun k hk => Or.inl (Or.inr (Or.inr (Or.inr hk))))).set (Or.inl (Or.inl rfl)) _, ?_⟩⟩
  · rw [World.frozen?_of_block (w := W3) (hg8.block g (r3.lt g (Or.inl rfl)) (Ne.symm n3))]
    exact r3.free 2
  · rw [hcells_append, List.length_append]
    exact ho8
  · rintro k (q | q | q | q)
    · exact Or.inl (Or.inl q)
    · exact Or.inl (Or.inr (Or.inl q))
    · exact Or.inl (Or.inr (Or.inr (Or.inl q)))
    · rcases hk8 k q with p | p
      · exact Or.inl (Or.inr (Or.inr (Or.inr p)))
      · exact Or.inr (Nat.le_trans fr3.size p)

set_option maxHeartbeats 1600000 in
set_option maxRecDepth 100000 in
theorem rwrite_ok {B : Nat} {w : World} {g : Nat} {h : RH} {Q : RS} (r : RDev B w g h Q) (i : Nat) (hi : i < Q.n) (s : ByteArray) (hs : s.size = 512) (hd : Q.down = false) (hq : Q.refuse ≠ 1) (hB : B ≤ w.heap.size)
    (b1 : 0 ≤ Q.ops ∧ Q.ops ≤ 1000000) (b2 : Q.armed = true → -1000000 ≤ Q.left ∧ Q.left ≤ 9223372036854775807) (b3 : 0 ≤ Q.refuse ∧ Q.refuse ≤ 9223372036854775807) (b4 : Q.held.length ≤ 1000000) :
    Calls Tryz.prog 56 #[.pointer (some ⟨g, 0, none⟩), .int .i64 (i : Int), .string s] w fun e w' => e = .returned (.int .i64 0) ∧ ∃ h', RDev B w' g h' (Q.wrote i s) ∧ Fr (rfoot g h) w w' ∧ ∀ k, rfoot g h' k → rfoot g h k ∨ w.heap.size ≤ k := by
  obtain ⟨i0, hi0, hz0, hz1, hz2⟩ := info_parts Tryz.info100
  obtain ⟨c0, _, c2, _, c4, _⟩ := r.cell
  obtain ⟨n1, n2, n3, n4, n5⟩ := r.ng
  have f4 := r.free 4
  have cD := rdown_any r
  rw [hd] at cD
  have d0 : decide ((i : Int) < 0) = false := by simp
  have d1 : decide ((Q.n : Int) ≤ (i : Int)) = false := by simp; omega
  have d2 : ((s.size : Int) == 512) = true := by rw [hs]; rfl
  have hi2 : (i : Int) < (Q.n : Int) := by omega
  by_cases hp : 0 < Q.refuse
  · have d3 : decide (0 < Q.refuse) = true := by simpa using hp
    have d4 : (Q.refuse - 1 == 0) = false := by rw [beq_eq_false_iff_ne]; omega
    have d5 : IntKind.i64.wrap (Q.refuse - 1) = Q.refuse - 1 := by rw [IntKind.wrap_i64]; omega
    have r1 := r.setRefuse (Q.refuse - 1)
    have fr1 : Fr (rfoot g h) w (w.setCell ⟨g, 4, none⟩ (.int .i64 (Q.refuse - 1))) := (Fr.refl _ _).set (Or.inl (Or.inl rfl)) _
    have c10 := r1.cell.1
    have c1s := r1.cellSeen i hi
    have f1s := r1.seen.frozenAt i
    have r2 := r1.setSeen i s
    have fr2 := fr1.set (p := ⟨h.ge, i, none⟩) (Or.inl (Or.inr (Or.inl rfl))) (.string s)
    have c22 := r2.cell.2.2.1
    have r3 := r2.below (below_alloc1 _ (.cells #[.int .i64 (i : Int), .string s] 100))
    have fr3 := fr2.alloc (.cells #[.int .i64 (i : Int), .string s] 100)
    have hnews := new2 (w := (w.setCell ⟨g, 4, none⟩ (.int .i64 (Q.refuse - 1))).setCell ⟨h.ge, i, none⟩ (.string s)) (p := .int .i64 (i : Int)) (q := .string s) (t := 100) (H := w.heap.size) (by simp)
    have hbase3 := Nat.le_trans hB fr3.size
    go_enter Tryz.func56, Tryz.ntmps56
    go_wp2_with fail
    refine cD.mono ?_
    rintro e w1 ⟨rfl, e1⟩
    rw [e1]
    go_wp2_with (at_builtin; refine wpList_append_own2 _ rfl (.tmp 54) (.tmp 58) 71 rfl B 100 i0 _ 2 24 Tryz.underlying71 hi0 hz0 hz1 hz2 rfl (by decide) h.hv Q.held.length (hcells Q.held) rfl r3.held ⟨w.heap.size, 0, none⟩ 1 1 [.int .i64 (i : Int), .string s] rfl rfl hnews (by intro u hu; simp at hu; rcases hu with rfl | rfl <;> rfl) (by unfold maxLen; omega) (by omega) hbase3 ?_; intro v8 w8 ho8 hg8 hk8; obtain ⟨⟨a8, l8, p8, rfl⟩, c8, f8, hfin⟩ := rpush_fin r3 fr3 ho8 hg8 hk8)
    obtain ⟨r9, fr9, gr9⟩ := hfin.out
    refine (rok_any r9 b1 b2).mono ?_
    rintro e w9 ⟨rfl, r10, fr10⟩
    go_wp2_with fail
    go_ret
    refine ⟨rfl, _, ?_, fr_rnew fr9 fr10 gr9, gr9⟩
    rw [RS.wrote, if_pos hp]
    exact r10
  · have d3 : decide (0 < Q.refuse) = false := by simpa using hp
    have c1s := r.cellSeen i hi
    have f1s := r.seen.frozenAt i
    have r2 := r.setSeen i s
    have fr2 := (Fr.refl (rfoot g h) w).set (p := ⟨h.ge, i, none⟩) (Or.inl (Or.inr (Or.inl rfl))) (.string s)
    have c22 := r2.cell.2.2.1
    have r3 := r2.below (below_alloc1 _ (.cells #[.int .i64 (i : Int), .string s] 100))
    have fr3 := fr2.alloc (.cells #[.int .i64 (i : Int), .string s] 100)
    have hnews := new2 (w := w.setCell ⟨h.ge, i, none⟩ (.string s)) (p := .int .i64 (i : Int)) (q := .string s) (t := 100) (H := w.heap.size) (by simp)
    have hbase3 := Nat.le_trans hB fr3.size
    go_enter Tryz.func56, Tryz.ntmps56
    go_wp2_with fail
    refine cD.mono ?_
    rintro e w1 ⟨rfl, e1⟩
    rw [e1]
    go_wp2_with (at_builtin; refine wpList_append_own2 _ rfl (.tmp 54) (.tmp 58) 71 rfl B 100 i0 _ 2 24 Tryz.underlying71 hi0 hz0 hz1 hz2 rfl (by decide) h.hv Q.held.length (hcells Q.held) rfl r3.held ⟨w.heap.size, 0, none⟩ 1 1 [.int .i64 (i : Int), .string s] rfl rfl hnews (by intro u hu; simp at hu; rcases hu with rfl | rfl <;> rfl) (by unfold maxLen; omega) (by omega) hbase3 ?_; intro v8 w8 ho8 hg8 hk8; obtain ⟨⟨a8, l8, p8, rfl⟩, c8, f8, hfin⟩ := rpush_fin r3 fr3 ho8 hg8 hk8)
    obtain ⟨r9, fr9, gr9⟩ := hfin.out
    refine (rok_any r9 b1 b2).mono ?_
    rintro e w9 ⟨rfl, r10, fr10⟩
    go_wp2_with fail
    go_ret
    refine ⟨rfl, _, ?_, fr_rnew fr9 fr10 gr9, gr9⟩
    rw [RS.wrote, if_neg (by omega)]
    exact r10

theorem owns_low {w : World} {b b' e size : Nat} {v : Value} {n : Nat} {xs : List Value} (h : w.ownsRow b e size v n xs) (hb : b' ≤ b) : w.ownsRow b' e size v n xs := by
  refine ⟨h.1, ?_⟩
  rcases h.2 with e | ⟨g, cap, cur, rfl, a, c⟩
  · exact Or.inl e
  · exact Or.inr ⟨g, cap, cur, rfl, Nat.le_trans hb a, c⟩

/-- The copy of a row of texts. -/
theorem copied {B : Nat} {w w8 : World} {v8 : Value} {f : Nat → ByteArray} {n : Nat} (ho : w8.ownsRow w.heap.size 9 1 v8 (0 + n) ([] ++ strC f n)) (hn : v8 = .slice none 0 0 ↔ Value.slice (some ⟨w.heap.size, 0, none⟩) 0 0 = .slice none 0 0 ∧ n = 0) (hB : B ≤ w.heap.size) :
    ∃ b c, v8 = .slice (some ⟨b, 0, none⟩) n c ∧ w.heap.size ≤ b ∧ w8.ownsRow B 9 1 (.slice (some ⟨b, 0, none⟩) n c) n (strC f n) := by
  rw [Nat.zero_add, List.nil_append] at ho
  have h0 := ho
  rcases ho.2 with ⟨e, _⟩ | ⟨b, c, cur, rfl, hb, _⟩
  · have := hn.1 e
    simp at this
  · exact ⟨b, c, rfl, hb, owns_low h0 hB⟩

theorem strC_src {B : Nat} {w : World} {ge ce : Nat} {f : Nat → ByteArray} {n : Nat} (h : w.ownsRow B 9 1 (.slice (some ⟨ge, 0, none⟩) n ce) n (strC f n)) (o : Obj) : ∀ j u, (strC f n)[j]? = some u → (w.alloc o).cell? ((⟨ge, 0, none⟩ : Addr).add j) = some u := by
  intro j u hu
  have hc := h.cells (g := ge) rfl j u hu
  exact ((below_alloc1 w o).cell (World.block_lt_of_cell? w _ hc)).trans hc

/-- A flush that is OK. -/
def RS.flushed (Q : RS) : RS := RS.counted { Q with safe := Q.seen, held := [] }

set_option maxHeartbeats 400000 in
theorem rflush_down {B : Nat} {w : World} {g : Nat} {h : RH} {Q : RS} (r : RDev B w g h Q) (hd : Q.down = true) :
    Calls Tryz.prog 57 #[.pointer (some ⟨g, 0, none⟩)] w fun e w' => e = .returned (.int .i64 41) ∧ w' = w := by
  have cD := rdown_any r
  rw [hd] at cD
  go_enter Tryz.func57, Tryz.ntmps57
  go_wp2_with fail
  refine cD.mono ?_
  rintro e w1 ⟨rfl, e1⟩
  rw [e1]
  go_wp2_with fail
  go_ret
  exact ⟨rfl, rfl⟩

set_option maxHeartbeats 1600000 in
set_option maxRecDepth 100000 in
theorem rflush_ok {B : Nat} {w : World} {g : Nat} {h : RH} {Q : RS} (r : RDev B w g h Q) (hd : Q.down = false) (hB : B ≤ w.heap.size) (hn : Q.n ≤ 8192)
    (b1 : 0 ≤ Q.ops ∧ Q.ops ≤ 1000000) (b2 : Q.armed = true → -1000000 ≤ Q.left ∧ Q.left ≤ 9223372036854775807) :
    Calls Tryz.prog 57 #[.pointer (some ⟨g, 0, none⟩)] w fun e w' => e = .returned (.int .i64 0) ∧ ∃ h', RDev B w' g h' Q.flushed ∧ Fr (rfoot g h) w w' ∧ ∀ k, rfoot g h' k → rfoot g h k ∨ w.heap.size ≤ k := by
  obtain ⟨i0, hi0, hz0, hz1, hz2⟩ := info_parts Tryz.info9
  have cD := rdown_any r
  rw [hd] at cD
  have r1 := r.below (below_alloc1 w (.cells #[] 9))
  have c10 := r1.cell.1
  have hmade : (w.alloc (.cells #[] 9)).ownsRow w.heap.size 9 1 (.slice (some ⟨w.heap.size, 0, none⟩) 0 0) 0 [] := World.ownsRow_made w #[] 0 (Nat.le_refl _) (Nat.zero_le _) rfl
  have hsrc := strC_src r.seen (.cells #[] 9)
  have fin : ∀ v8 w8, w8.ownsRow w.heap.size 9 1 v8 (0 + Q.n) ([] ++ strC Q.seen Q.n) → (w.alloc (.cells #[] 9)).grownBy w8 (Value.slice (some ⟨w.heap.size, 0, none⟩) 0 0).ownBlock → (v8 = .slice none 0 0 ↔ Value.slice (some ⟨w.heap.size, 0, none⟩) 0 0 = .slice none 0 0 ∧ Q.n = 0) →
      ∃ b c, v8 = .slice (some ⟨b, 0, none⟩) Q.n c ∧ (∃ x, w8.cell? ⟨g, 1, none⟩ = some (.slice (some ⟨h.ga, 0, none⟩) Q.n x)) ∧ w8.frozen? ⟨g, 1, none⟩ = false ∧ (w8.setCell ⟨g, 1, none⟩ (.slice (some ⟨b, 0, none⟩) Q.n c)).cell? ⟨g, 2, none⟩ = some h.hv ∧ (w8.setCell ⟨g, 1, none⟩ (.slice (some ⟨b, 0, none⟩) Q.n c)).frozen? ⟨g, 2, none⟩ = false ∧
        Hid (RDev B ((w8.setCell ⟨g, 1, none⟩ (.slice (some ⟨b, 0, none⟩) Q.n c)).setCell ⟨g, 2, none⟩ (.slice none 0 0)) g { h with ga := b, ca := c, hv := .slice none 0 0 } { Q with safe := Q.seen, held := [] } ∧
          Fr (rfoot g h) w ((w8.setCell ⟨g, 1, none⟩ (.slice (some ⟨b, 0, none⟩) Q.n c)).setCell ⟨g, 2, none⟩ (.slice none 0 0)) ∧ ∀ k, rfoot g { h with ga := b, ca := c, hv := .slice none 0 0 } k → rfoot g h k ∨ w.heap.size ≤ k) := by
    intro v8 w8 ho8 hg8 hn8
    obtain ⟨b, c, e, hb, ho⟩ := copied (B := B) ho8 hn8 hB
    have bl : Below w.heap.size w w8 := (below_alloc1 w _).trans ((Below.refl _ _).grown hg8 (by simp) (fun k hk => by cases hk; exact Nat.le_refl _))
    have r8 := r.below bl
    have hge : h.ge < w.heap.size := r.lt _ (Or.inr (Or.inl rfl))
    have r9 := r8.newSafe b c Q.seen ho (by omega)
    have r10 := r9.newHeld (.slice none 0 0) [] (World.ownsRow_nil _ _ _ _)
    refine ⟨b, c, e, ⟨_, r8.cell.2.1⟩, r8.free 1, r9.cell.2.2.1, r9.free 2, ⟨r10, ((Fr.of_below bl).set (Or.inl (Or.inl rfl)) _).set (Or.inl (Or.inl rfl)) _, ?_⟩⟩
    rintro k (q | q | q | q)
    · exact Or.inl (Or.inl q)
    · exact Or.inl (Or.inr (Or.inl q))
    · simp only at q; exact Or.inr (by omega)
    · simp [Value.ownBlock] at q
  go_enter Tryz.func57, Tryz.ntmps57
  go_wp2_with fail
  refine cD.mono ?_
  rintro e w1 ⟨rfl, e1⟩
  rw [e1]
  clear e1
  go_wp2_with (at_builtin; refine wpList_append_own _ rfl (.tmp 6) (.tmp 10) 70 rfl w.heap.size 9 i0 _ 1 16 Tryz.underlying70 hi0 hz0 hz1 hz2 rfl (by decide) _ 0 [] rfl hmade ⟨h.ge, 0, none⟩ Q.n h.ce (strC Q.seen Q.n) rfl (by rw [strC_length, Nat.mul_one]) hsrc (strC_one _ _) (by unfold maxLen; omega) (by omega) (by simp) ?_; intro v8 w8 ho8 hg8 hn8; obtain ⟨b, c, rfl, ⟨x, c8⟩, f8, c9, f9, hfin⟩ := fin v8 w8 ho8 hg8 hn8)
  obtain ⟨r9, fr9, gr9⟩ := hfin.out
  refine (rok_any r9 b1 b2).mono ?_
  rintro e w9 ⟨rfl, r10, fr10⟩
  go_wp2_with fail
  go_ret
  exact ⟨rfl, _, r10, fr_rnew fr9 fr10 gr9, gr9⟩

end Go.Proofs.YtghocbaafdnddaaGreat

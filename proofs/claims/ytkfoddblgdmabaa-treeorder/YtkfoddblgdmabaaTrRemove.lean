/- Layer 10: the tree's remove: an entry taken out, and what has too few mended above it. -/
import Derived.Test.YtkfoddblgdmabaaTrInsert
import Derived.Test.YtkfoddblgdmabaaTrCut
import Derived.Test.YtkfoddblgdmabaaTrSet
namespace Go.Proofs.Ytkfoddblgdmabaa.tr
open Go.RowKit

theorem Fr.drewN {F : Nat → Prop} {w W : World} (h : Fr F w W) (n : Nat) : Fr F w (W.drewN n) := ⟨h.1, h.2, h.3, h.4, h.5⟩
theorem takeH {P : Program} {md : Region.Mode} {ops : Array Oper} {Q : Exit → Act → World → Prop} {S : World → Prop} (i d : Nat) {oi : Oper} {v : Value} {fuel : Nat} {listed : Array Bool} {ts : Array Value} {df : List Deferred} {w : World} (hi : ops[i]? = some oi) (hd : oi.dst = some d)
    (hs : Region.noSelect ops = true) (hf : Region.free md ops listed i = true) (hr : (Region.ready md ops listed).contains i = true)
    (hQ : ∀ c a w, Q (.panic c) (a.put (some d) v) w → Q (.panic c) a w) (hy : YieldsIf P ops S oi v ⟨ts, df⟩) (hS : S w)
    (h : wpAnyH P md ops Q S fuel (listed.setIfInBounds i true) ⟨ts.setIfInBounds d v, df⟩ w) : wpAnyH P md ops Q S (fuel + 1) listed ⟨ts, df⟩ w := by
  refine wpAnyH_take hi hs hf hr (by rw [hd]; exact hQ) hy hS ?_
  rw [hd]
  exact h

set_option maxHeartbeats 3200000 in
set_option maxRecDepth 100000 in
theorem remove_any {w : World} {B : Nat} {M : Mp} {f R H h s tb b i : Nat} {T : List Ent} {e0 : Ent} {v : Value} {up : List (Nat × Nat)} (m : Mm w B M) (hB : B ≤ w.heap.size) (ht : w.heap[tb]? = some (tobj f R (s + 1))) (hr : RowS w 0 v (up.reverse ++ [(b, i)])) (hv : ∀ k, v.ownBlock = some k → ¬ Ft M k ∧ k ≠ tb)
    (hH : H ≤ 20000) (hf3 : 3 ≤ f) (hf : f ≤ 64) (hs : s ≤ 20000) (hT : T.length ≤ 20000) (hd : Fd M f R H T e0 up h b i) (hsrt : Srt T) :
    Calls Try.prog 35 #[.pointer (some ⟨tb, 0, none⟩), v] w fun e w' => e = .returned (.tuple #[]) ∧ ∃ M' R' H' F', Mm w' B M' ∧ w'.heap[tb]? = some (tobj f R' s) ∧ Gd M' f R' H' (delL e0.key T) F' ∧ Fr (fun k => Ft M k ∨ k = tb ∨ v.ownBlock = some k) w w' ∧ ∀ k, Ft M' k → Ft M k ∨ w.heap.size ≤ k := by
  obtain ⟨t2, tf2⟩ := cell_obj (j := 2) ht
  have hsz : (0 : Int) ≤ ((s + 1 : Nat) : Int) ∧ ((s + 1 : Nat) : Int) ≤ 20001 ∧ ((s + 1 : Nat) : Int) - 1 = (s : Int) := by omega
  obtain ⟨hs0, hs1, hs2⟩ := hsz
  have hla : ∀ U, RowS U 0 v (up.reverse ++ [(b, i)]) → Calls Try.prog 30 #[v] U fun e w' => e = .returned (.agg #[.pointer (some ⟨b, 0, none⟩), .int .i64 (i : Int)]) ∧ Below U.heap.size U w' := fun U g => last_any g (q := (b, i)) (by simp)
  have HR1 : Hid (RowS (w.setCell ⟨tb, 2, none⟩ (.int .i64 (s : Int))) 0 v (up.reverse ++ [(b, i)])) := hr.kept (fun k e => set_other (hv k e).2)
  go_enter Try.func35, Try.ntmps35
  go_wp2_with ((try go_at_call 30); refine (hla _ HR1.out).mono ?_; rintro e w1 ⟨rfl, hb1⟩)
  rename_i K3 hK3 K2 hK2 K1 hK1
  have HMID : Hid (∀ (t1 t5 t19 t20 t21 t22 t23 t24 t25 t26 t27 t28 t29 t30 t31 t32 t33 : Value) (U : World) (M1 : Mp) (upc : List (Nat × Nat)) (bc jc j xo : Nat), Mm U B M1 → B ≤ U.heap.size → RowS U 0 t1 (upc.reverse ++ [(bc, jc)]) → (∀ k, t1.ownBlock = some k → ¬ Ft M1 k ∧ k ≠ tb) → U.heap[xo]? = some (.cells #[.pointer (some ⟨bc, 0, none⟩), .int .i64 (j : Int)] 76 (0, 0)) → U.heap[tb]? = some (tobj f R s) → Rd M1 f R H upc bc j (delL e0.key T) → upc.length ≤ H → Fr (fun k => Ft M k ∨ k = tb ∨ v.ownBlock = some k) w U → (∀ k, Ft M1 k → Ft M k ∨ w.heap.size ≤ k) → w.heap.size ≤ xo → K3 { tmps := #[.pointer (some ⟨tb, 0, none⟩), t1, undef, undef, .pointer (some ⟨xo, 0, none⟩), t5, undef, undef, .pointer (some ⟨tb, 0, none⟩), .pointer (some ⟨tb, 0, none⟩), .pointer (some ⟨tb, 2, none⟩), .int .i64 ((s : Int) + 1), .int .i64 (s : Int), .pointer (some ⟨tb, 0, none⟩), .pointer (some ⟨tb, 2, none⟩), v, .agg #[.pointer (some ⟨b, 0, none⟩), .int .i64 (i : Int)], .pointer (some ⟨xo, 0, none⟩), .pointer (some ⟨b, 0, none⟩), t19, t20, t21, t22, t23, t24, t25, t26, t27, t28, t29, t30, t31, t32, t33, undef, undef, undef, undef, undef, undef, undef, undef, undef, undef, undef, undef, undef, undef, undef, undef, undef, undef, undef, undef, undef, undef, undef, undef, undef, undef, undef, undef, undef, undef, undef, undef, undef, undef, undef, undef, undef, undef, undef, undef, undef, undef, undef, undef, undef, undef, undef, undef, undef, undef, undef, undef, undef, undef, undef, undef, undef, undef, undef, undef, undef, undef, undef, undef, undef, undef, undef, undef, undef, undef, undef, undef, undef, undef, undef, undef, undef], defers := [] } U) := by
    intro t1 t5 t19 t20 t21 t22 t23 t24 t25 t26 t27 t28 t29 t30 t31 t32 t33 U M1 upc bc jc j xo mU hBU hrU hvU hxo htU hrd hul hfU hft hxw
    refine hK3 _ _ ?_
    clear hK3 hK2 hK1 K1 K2 K3
    obtain ⟨n, z, hn, hz, hnl, hcu⟩ := hrd.out
    have hTl : (delL e0.key T).length ≤ T.length := by have := delL_len e0.key T hsrt; omega
    obtain ⟨rb, rc, e1, hlc, hcm, hrb, d0, d1, _, _⟩ := mU.ent hn hz
    have hjl : j < n.es.length := (List.getElem?_eq_some_iff.1 hz).1
    have hjb : (j : Int) ≤ 20001 := by omega
    have hj0 : (0 : Int) ≤ (j : Int) := by omega
    have hwr : IntKind.i64.wrap ((j : Int) + 1) = (j : Int) + 1 := by rw [IntKind.wrap_i64]; omega
    have hdl : Hid (∀ V, Below U.heap.size U V → Calls Try.prog 49 #[.slice (some ⟨rb, 0, none⟩) n.es.length rc, .int .i64 (j : Int), .int .i64 ((j : Int) + 1)] V fun e w' => ∃ v', e = .returned v' ∧ RowE w' B v' (n.es.take j ++ n.es.drop (j + 1)) ∧ Fr (fun k => n.ev.ownBlock = some k) V w' ∧ v'.ownBlock = n.ev.ownBlock) := fun V g => by
      have := delE_any ((mU.ents bc n hn).below' g) j (j + 1) (by omega) (by omega) (by omega)
      rw [e1] at this ⊢
      exact this
    have HDEL := hdl
    have CE : Hid (∀ V, Fr (fun k => n.ev.ownBlock = some k) U V → V.cell? ⟨xo, 0, none⟩ = some (.pointer (some ⟨bc, 0, none⟩)) ∧ V.cell? ⟨xo, 1, none⟩ = some (.int .i64 (j : Int)) ∧ V.cell? ⟨bc, 0, none⟩ = some (.slice (some ⟨rb, 0, none⟩) n.es.length rc) ∧ V.frozen? ⟨bc, 0, none⟩ = false) := fun V g => by
      obtain ⟨q1, _, q2, _⟩ := ncell (mU.top2 hn g)
      have hx := (g.block xo (Array.getElem?_eq_some_iff.1 hxo).1 (fun q => mU.not_spot ⟨bc, n, hn, Or.inr (Or.inl q)⟩ hxo)).trans hxo
      exact ⟨(cell_obj (j := 0) hx).1, (cell_obj (j := 1) hx).1, by rw [q1, e1], q2⟩
    clear hdl hr hv hd d0 d1 hla m hb1 t2 tf2
    go_wp2_with fail
    have hS0 : Fr (fun k => n.ev.ownBlock = some k) U U.drew := (Fr.refl _ _).drew
    refine anyL_begin (S := fun V => Fr (fun k => n.ev.ownBlock = some k) U V) (n := 15) (by kernel_rfl) (hS0) (fun hHeld => ?_)
    have hD : Below U.heap.size U U.drew := (Below.refl _ _).drew
    generalize U.drew = Ud at hD hHeld ⊢
    refine takeL 0 34 (v := .pointer (some ⟨xo, 0, none⟩)) rfl rfl (by kernel_rfl) (by kernel_rfl) (by kernel_rfl) (by kernel_rfl) (fun _ _ _ h => h) (Or.inl ⟨by rfl, by (intro W hSw; obtain ⟨s1, s2, s3, s4⟩ := CE.out W hSw; go_simp)⟩) hHeld ?_
    simp only [List.setIfInBounds_toArray, List.set_cons_zero, List.set_cons_succ]
    refine takeL 1 35 (v := .pointer (some ⟨bc, 0, none⟩)) rfl rfl (by kernel_rfl) (by kernel_rfl) (by kernel_rfl) (by kernel_rfl) (fun _ _ _ h => h) (Or.inl ⟨by rfl, by (intro W hSw; obtain ⟨s1, s2, s3, s4⟩ := CE.out W hSw; go_simp)⟩) hHeld ?_
    simp only [List.setIfInBounds_toArray, List.set_cons_zero, List.set_cons_succ]
    refine takeL 2 36 (v := .pointer (some ⟨xo, 0, none⟩)) rfl rfl (by kernel_rfl) (by kernel_rfl) (by kernel_rfl) (by kernel_rfl) (fun _ _ _ h => h) (Or.inl ⟨by rfl, by (intro W hSw; obtain ⟨s1, s2, s3, s4⟩ := CE.out W hSw; go_simp)⟩) hHeld ?_
    simp only [List.setIfInBounds_toArray, List.set_cons_zero, List.set_cons_succ]
    refine takeL 3 37 (v := .pointer (some ⟨bc, 0, none⟩)) rfl rfl (by kernel_rfl) (by kernel_rfl) (by kernel_rfl) (by kernel_rfl) (fun _ _ _ h => h) (Or.inl ⟨by rfl, by (intro W hSw; obtain ⟨s1, s2, s3, s4⟩ := CE.out W hSw; go_simp)⟩) hHeld ?_
    simp only [List.setIfInBounds_toArray, List.set_cons_zero, List.set_cons_succ]
    refine takeL 4 38 (v := .pointer (some ⟨bc, 0, none⟩)) rfl rfl (by kernel_rfl) (by kernel_rfl) (by kernel_rfl) (by kernel_rfl) (fun _ _ _ h => h) (Or.inl ⟨by rfl, by (intro W hSw; obtain ⟨s1, s2, s3, s4⟩ := CE.out W hSw; go_simp)⟩) hHeld ?_
    simp only [List.setIfInBounds_toArray, List.set_cons_zero, List.set_cons_succ]
    refine takeL 5 39 (v := .pointer (some ⟨bc, 0, none⟩)) rfl rfl (by kernel_rfl) (by kernel_rfl) (by kernel_rfl) (by kernel_rfl) (fun _ _ _ h => h) (Or.inl ⟨by rfl, by (intro W hSw; obtain ⟨s1, s2, s3, s4⟩ := CE.out W hSw; go_simp)⟩) hHeld ?_
    simp only [List.setIfInBounds_toArray, List.set_cons_zero, List.set_cons_succ]
    refine takeL 6 40 (v := .slice (some ⟨rb, 0, none⟩) n.es.length rc) rfl rfl (by kernel_rfl) (by kernel_rfl) (by kernel_rfl) (by kernel_rfl) (fun _ _ _ h => h) (Or.inl ⟨by rfl, by (intro W hSw; obtain ⟨s1, s2, s3, s4⟩ := CE.out W hSw; go_simp)⟩) hHeld ?_
    simp only [List.setIfInBounds_toArray, List.set_cons_zero, List.set_cons_succ]
    refine takeL 7 41 (v := .pointer (some ⟨xo, 1, none⟩)) rfl rfl (by kernel_rfl) (by kernel_rfl) (by kernel_rfl) (by kernel_rfl) (fun _ _ _ h => h) (Or.inl ⟨by rfl, by (intro W hSw; obtain ⟨s1, s2, s3, s4⟩ := CE.out W hSw; go_simp)⟩) hHeld ?_
    simp only [List.setIfInBounds_toArray, List.set_cons_zero, List.set_cons_succ]
    refine takeL 8 42 (v := .int .i64 (j : Int)) rfl rfl (by kernel_rfl) (by kernel_rfl) (by kernel_rfl) (by kernel_rfl) (fun _ _ _ h => h) (Or.inl ⟨by rfl, by (intro W hSw; obtain ⟨s1, s2, s3, s4⟩ := CE.out W hSw; go_simp)⟩) hHeld ?_
    simp only [List.setIfInBounds_toArray, List.set_cons_zero, List.set_cons_succ]
    refine takeL 9 43 (v := .pointer (some ⟨xo, 1, none⟩)) rfl rfl (by kernel_rfl) (by kernel_rfl) (by kernel_rfl) (by kernel_rfl) (fun _ _ _ h => h) (Or.inl ⟨by rfl, by (intro W hSw; obtain ⟨s1, s2, s3, s4⟩ := CE.out W hSw; go_simp)⟩) hHeld ?_
    simp only [List.setIfInBounds_toArray, List.set_cons_zero, List.set_cons_succ]
    refine takeL 10 44 (v := .int .i64 (j : Int)) rfl rfl (by kernel_rfl) (by kernel_rfl) (by kernel_rfl) (by kernel_rfl) (fun _ _ _ h => h) (Or.inl ⟨by rfl, by (intro W hSw; obtain ⟨s1, s2, s3, s4⟩ := CE.out W hSw; go_simp)⟩) hHeld ?_
    simp only [List.setIfInBounds_toArray, List.set_cons_zero, List.set_cons_succ]
    refine takeL 11 45 (v := .int .i64 ((j : Int) + 1)) rfl rfl (by kernel_rfl) (by kernel_rfl) (by kernel_rfl) (by kernel_rfl) (fun _ _ _ h => h) (Or.inl ⟨by rfl, by (intro W hSw; obtain ⟨s1, s2, s3, s4⟩ := CE.out W hSw; go_simp)⟩) hHeld ?_
    simp only [List.setIfInBounds_toArray, List.set_cons_zero, List.set_cons_succ]
    refine anyL_one 12 (by kernel_rfl) (upL rfl (fun K hK => ?_))
    go_simp
    refine (HDEL.out _ hD).mono ?_
    rintro e w5 ⟨v5, rfl, row5, fr5, own5⟩
    have fB : Fr (fun k => n.ev.ownBlock = some k) U w5 := hHeld.trans fr5 (fun _ _ g => g)
    refine hK.out _ _ (fun _ => fB) (fun hHeld0 => ?_)
    have hHeld := hHeld0 (by decide)
    clear hHeld0 hK K
    (try simp only [Act.put, List.setIfInBounds_toArray, List.set_cons_zero, List.set_cons_succ])
    obtain ⟨s1, s2, s3, s4⟩ := CE.out _ hHeld
    obtain ⟨EL, hEL⟩ : ∃ EL, n.es.take j ++ n.es.drop (j + 1) = EL := ⟨_, rfl⟩
    have HEL : Hid (n.es.take j ++ n.es.drop (j + 1) = EL) := hEL
    rw [hEL] at row5
    clear hEL
    obtain ⟨a5, c5, rfl, _, _⟩ := row5.len
    refine anyL_one 13 (by kernel_rfl) (upL rfl (fun K hK => ?_))
    go_simp
    refine hK.out _ _ (fun _ => hHeld) (fun hHeld0 => ?_)
    have hHeld := hHeld0 (by decide)
    clear hHeld0 hK K
    (try simp only [Act.put, List.setIfInBounds_toArray, List.set_cons_zero, List.set_cons_succ])
    refine anyL_one 14 (by kernel_rfl) (upL rfl (fun K hK => ?_))
    go_simp
    refine hK.out _ _ (fun _ => hHeld) (fun hHeld0 => ?_)
    have hHeld := hHeld0 (by decide)
    clear hHeld0 hK K
    (try simp only [Act.put, List.setIfInBounds_toArray, List.set_cons_zero, List.set_cons_succ])
    refine anyL_one 15 (by kernel_rfl) (upL rfl (fun K hK => ?_))
    go_simp
    refine hK.out _ _ (fun q => absurd rfl q) (fun _ => ?_)
    clear hK K
    (try simp only [Act.put, List.setIfInBounds_toArray, List.set_cons_zero, List.set_cons_succ])
    refine anyL_done (by kernel_rfl) ?_ _
    have up5 := mU.ents' hn hHeld row5 (fun k e => Or.inl (by rw [← own5]; exact e))
    have hcu2 := hcu ⟨.slice a5 EL.length c5, n.kv, EL, n.ks⟩ HEL.out.symm rfl
    generalize (M1.put bc ⟨.slice a5 EL.length c5, n.kv, EL, n.ks⟩) = M2 at *
    generalize (w5.setCell ⟨bc, 0, none⟩ (.slice a5 EL.length c5)) = W6 at *
    obtain ⟨m6, to6⟩ := up5
    have hU6 := to6.fr.size
    have ht6 : W6.heap[tb]? = some (tobj f R s) := (to6.fr.block tb (Array.getElem?_eq_some_iff.1 htU).1 (fun q => mU.not_tree q htU)).trans htU
    have hr6 : RowS W6 0 t1 (upc.reverse ++ [(bc, jc)]) := hrU.kept (fun k e => to6.fr.block k (hrU.blk e).2 (hvU k e).1)
    have hf6 : Fr (fun k => Ft M k ∨ k = tb ∨ v.ownBlock = some k) w W6 := hfU.trans to6.fr (fun i hi g => (hft i g).elim Or.inl (fun q => by omega))
    have hft6 : ∀ k, Ft M2 k → Ft M k ∨ w.heap.size ≤ k := fun k hk => (to6.ft k hk).elim (hft k) (fun q => Or.inr (Nat.le_trans hfU.size q))
    have hv6 : ∀ k, t1.ownBlock = some k → ¬ Ft M2 k ∧ k ≠ tb := fun k e => ⟨fun q => (to6.ft k q).elim (hvU k e).1 (fun g => by have := (hrU.blk e).2; omega), (hvU k e).2⟩
    clear mU hrU hvU hxo htU hrd hfU hft hcu hn hz hnl e1 hlc hcm hrb hjl CE HDEL hS0 hHeld row5 fr5 own5 fB hD s1 s2 s3 s4 HEL to6
    obtain ⟨zs, hzs⟩ : ∃ zs, upc.reverse ++ [(bc, jc)] = zs := ⟨_, rfl⟩
    have HZL : Hid (zs.length = upc.length + 1) := hide (by rw [← hzs]; simp)
    rw [hzs] at hr6
    obtain ⟨ra, rcap, rfl, _, _⟩ := hr6.len
    obtain ⟨zl, hzl⟩ : ∃ zl, zs.length = zl := ⟨_, rfl⟩
    have HZ2 : Hid (zl = upc.length + 1) := hzl.symm.trans HZL.out
    have HR6 : Hid (RowS W6 0 (.slice ra zl rcap) zs) := by rw [← hzl]; exact hr6
    have hzb : (0 : Int) ≤ (zl : Int) ∧ (zl : Int) ≤ 20001 ∧ (zl : Int) - 1 = (upc.length : Int) := by have := HZ2.out; omega
    obtain ⟨hzb0, hzb1, hzb2⟩ := hzb
    rw [hzl] at hv6
    rw [hzl]
    clear hr6 hzl
    go_wp2_with fail
    rename_i KE hKE
    have HEND : Hid (∀ (t6 t7 t34 t35 t36 t37 t38 t39 t40 t41 t42 t43 t44 t45 t46 t47 t48 t49 t50 t51 t52 t53 t54 t55 t56 t57 t58 t59 t60 t61 t62 t63 t64 t65 t66 t67 t68 t69 t70 t71 t72 t73 t74 t75 t76 t77 t78 t79 t80 t81 : Value) (W : World) (M3 : Mp), Mm W B M3 → B ≤ W.heap.size → W.heap[tb]? = some (tobj f R s) → Cd M3 f R H (delL e0.key T) → Fr (fun k => Ft M k ∨ k = tb ∨ v.ownBlock = some k) w W → (∀ k, Ft M3 k → Ft M k ∨ w.heap.size ≤ k) → KE { tmps := #[.pointer (some ⟨tb, 0, none⟩), .slice ra zl rcap, undef, undef, .pointer (some ⟨xo, 0, none⟩), t5, t6, t7, .pointer (some ⟨tb, 0, none⟩), .pointer (some ⟨tb, 0, none⟩), .pointer (some ⟨tb, 2, none⟩), .int .i64 ((s : Int) + 1), .int .i64 (s : Int), .pointer (some ⟨tb, 0, none⟩), .pointer (some ⟨tb, 2, none⟩), v, .agg #[.pointer (some ⟨b, 0, none⟩), .int .i64 (i : Int)], .pointer (some ⟨xo, 0, none⟩), .pointer (some ⟨b, 0, none⟩), t19, t20, t21, t22, t23, t24, t25, t26, t27, t28, t29, t30, t31, t32, t33, t34, t35, t36, t37, t38, t39, t40, t41, t42, t43, t44, t45, t46, t47, t48, t49, t50, t51, t52, t53, t54, t55, t56, t57, t58, t59, t60, t61, t62, t63, t64, t65, t66, t67, t68, t69, t70, t71, t72, t73, t74, t75, t76, t77, t78, t79, t80, t81, undef, undef, undef, undef, undef, undef, undef, undef, undef, undef, undef, undef, undef, undef, undef, undef, undef, undef, undef, undef, undef, undef, undef, undef, undef, undef, undef, undef, undef], defers := [] } W) := by
      intro t6 t7 t34 t35 t36 t37 t38 t39 t40 t41 t42 t43 t44 t45 t46 t47 t48 t49 t50 t51 t52 t53 t54 t55 t56 t57 t58 t59 t60 t61 t62 t63 t64 t65 t66 t67 t68 t69 t70 t71 t72 t73 t74 t75 t76 t77 t78 t79 t80 t81 W M3 m3 hBW ht3 hcd hfr3 hft3
      refine hKE _ _ ?_
      clear hKE KE
      obtain ⟨nr, hnr, hrl, hrk⟩ := hcd.node
      obtain ⟨ct1, ctf⟩ := cell_obj (j := 1) ht3
      obtain ⟨c0, c1, _, _⟩ := ncell (m3.top R nr hnr).1
      obtain ⟨ea, ec, e1, _, _⟩ := (m3.ents R nr hnr).len
      rw [e1] at c0
      have hsd : Srt (delL e0.key T) := hsrt.del _
      have hTd : (delL e0.key T).length ≤ T.length := by have := delL_len e0.key T hsrt; omega
      have HD : Hid ((nr.es ≠ [] ∨ nr.ks = []) → ∃ F, Gd M3 f R H (delL e0.key T) F) := fun q => hcd.good hsd hnr q
      have HRt : Hid (nr.es = [] → nr.ks ≠ [] → ∃ k H' F, nr.ks = [k] ∧ Gd M3 f k H' (delL e0.key T) F) := fun q1 q2 => hcd.root hsd hf3 hnr q1 q2
      by_cases hE : nr.es = []
      · rw [hE] at c0
        simp only [List.length_nil] at c0
        by_cases hK : nr.ks = []
        · have hend := end_yes m3 hnr hK
          go_wp2_with ((try go_at_call 39); refine hend.mono ?_; rintro e w6 ⟨rfl, h6⟩; rw [h6]; clear h6 w6)
          obtain ⟨Fx, hg⟩ := HD.out (Or.inr hK)
          go_end0
          exact ⟨rfl, M3, R, H, Fx, m3, ht3, hg, hfr3, hft3⟩
        · obtain ⟨k, H', F', hk1, hg⟩ := HRt.out hE hK
          have hend := end_no m3 hnr hK
          obtain ⟨kb, kc, ek, hkc, hkm, hkb, k0⟩ := m3.kid hnr (i := 0) (k := k) (by rw [hk1]; rfl)
          rw [ek, hk1] at c1
          simp only [List.length_cons, List.length_nil] at c1
          go_wp2_with ((try go_at_call 39); refine hend.mono ?_; rintro e w6 ⟨rfl, h6⟩; rw [h6]; clear h6 w6)
          have hset := heap_setCell_same W tb 1 _ _ (.pointer (some ⟨k, 0, none⟩)) ht3
          have hMt : ∀ k', Ft M3 k' → k' ≠ tb := fun k' hk' e => m3.not_tree (f := f) (R := R) (s := s) hk' (by rw [e]; exact ht3)
          go_end0
          exact ⟨rfl, M3, k, H', F', m3.kept (fun k' hk' => set_other (hMt k' hk')), hset, hg, Fr.set (F := fun k => Ft M k ∨ k = tb ∨ v.ownBlock = some k) (p := ⟨tb, 1, none⟩) hfr3 (Or.inl (Or.inr (Or.inl rfl))) _, hft3⟩
      · obtain ⟨l, hl⟩ : ∃ l, nr.es.length = l + 1 := by
          cases h : nr.es with
          | nil => exact absurd h hE
          | cons a t => exact ⟨t.length, rfl⟩
        rw [hl] at c0
        have hl0 : ((l + 1 : Nat) : Int) ≠ 0 := by omega
        obtain ⟨Fx, hg⟩ := HD.out (Or.inl hE)
        go_wp2_with fail
        go_end0
        exact ⟨rfl, M3, R, H, Fx, m3, ht3, hg, hfr3, hft3⟩
    clear hKE hwr hjb hj0 hzb0 hzb1 hzb2
    obtain ⟨Wz, hWz⟩ : ∃ Wz, (bc, jc) :: upc = Wz := ⟨_, rfl⟩
    have hzr : zs = Wz.reverse := by rw [← hzs, ← hWz]; simp
    have hWl : Wz.length = upc.length + 1 := by rw [← hWz]; simp
    go_loopg [6] upc.length (fun kx s6 wr => ∃ (k : Nat) (hh bb at' : Nat) (Mk : Mp), s6 = .int .i64 (k : Int) ∧ k ≤ kx ∧ k ≤ upc.length ∧ Hid (zs[k]? = some (bb, at') ∧ Mm wr B Mk ∧ Cu Mk f R H (Wz.drop (Wz.length - k)) hh bb (delL e0.key T) ∧ Fr (Ft M2) W6 wr ∧ ∀ k, Ft Mk k → Ft M2 k ∨ W6.heap.size ≤ k))
    case atStart => exact ⟨upc.length, 0, bc, jc, M2, rfl, Nat.le_refl _, Nat.le_refl _, ⟨by rw [← hzs]; simp, m6, by rw [hWl, show upc.length + 1 - upc.length = 1 by omega, ← hWz]; exact hcu2, Fr.refl _ _, fun k hk => Or.inl hk⟩⟩
    case round =>
      obtain ⟨k, hh, bb, at', Mk, rfl, hkx, hkl, hS⟩ := hrel
      obtain ⟨hq, mk, cu, fr, ftk⟩ := hS.out
      have hrr : RowS wr 0 (.slice ra zl rcap) zs := HR6.out.kept (fun k e => fr.block k (HR6.out.blk e).2 (hv6 k e).1)
      have htb2 : wr.heap[tb]? = some (tobj f R s) := (fr.block tb (Array.getElem?_eq_some_iff.1 ht6).1 (fun q => m6.not_tree q ht6)).trans ht6
      have hBr : B ≤ wr.heap.size := by have := fr.size; omega
      have hFr : Fr (fun k => Ft M k ∨ k = tb ∨ v.ownBlock = some k) w wr := hf6.trans fr (fun i hi g => (hft6 i g).elim Or.inl (fun q => by omega))
      have hFt : ∀ k, Ft Mk k → Ft M k ∨ w.heap.size ≤ k := fun k hk => (ftk k hk).elim (hft6 k) (fun q => Or.inr (Nat.le_trans hf6.size q))
      obtain ⟨ct0, _⟩ := cell_obj (j := 0) htb2
      cases k with
      | zero =>
        have hcd := cu.stop (fun q => absurd (by rw [Nat.sub_zero, List.drop_length]) q)
        rw [show ((0 : Nat) : Int) = 0 from rfl]
        go_wp2_with fail
        go_quiet (fail)
        go_wp2_with fail
        exact HEND.out _ _ _ _ _ _ _ _ _ _ _ _ _ _ _ _ _ _ _ _ _ _ _ _ _ _ _ _ _ _ _ _ _ _ _ _ _ _ _ _ _ _ _ _ _ _ _ _ _ _ _ Mk (mk.kept (fun _ _ => rfl)) hBr htb2 hcd (hFr.drewN nq) hFt
      | succ k =>
        have hkp : (0 : Int) < ((k + 1 : Nat) : Int) := by omega
        have hkb : ((k + 1 : Nat) : Int) ≤ 20000 := by omega
        have hkb2 : ((k + 1 : Nat) : Int) < (zl : Int) := by have := HZ2.out; omega
        obtain ⟨rb1, rc1, er, _, _, _, hc⟩ := hrr.cell gS_len hq
        have k0 := (hc 0 _ rfl).1
        rw [Nat.add_zero] at k0
        injection er with er1 er2 er3
        subst er1 er3
        clear er2
        obtain ⟨nb, hnb, hnbl⟩ := cu.node
        have hfew := fun j => few_any (w := wr.drewN j) (mk.kept (fun _ _ => rfl)) hnb (by omega) f (by omega)
        by_cases hfw : 2 * (nb.es.length + 1) < f
        · rw [decide_eq_true hfw] at hfew
          go_wp2_with fail
          go_quiet ((go_at_call 50; exact Calls.quiet_of_same (hfew _)))
          obtain ⟨⟨p, at2⟩, hq2⟩ : ∃ q, zs[k]? = some q := ⟨_, List.getElem?_eq_getElem (by have := (List.getElem?_eq_some_iff.1 hq).1; omega)⟩
          obtain ⟨rb2, rc2, er2, _, _, _, hc2⟩ := hrr.cell gS_len hq2
          injection er2 with er1 er3 er4
          injection er1 with er1
          injection er1 with er1 er5 er6
          subst er1
          clear er3 er4 er5 er6
          have p0 := (hc2 0 _ rfl).1
          have p1 := (hc2 1 _ rfl).1
          rw [Nat.add_zero] at p0
          have hkb3 : (k : Int) < (zl : Int) := by have := HZ2.out; omega
          have hkb4 : (k : Int) ≤ 20000 := by omega
          have hkb5 : (0 : Int) ≤ (k : Int) := by omega
          have hkb6 : ((k + 1 : Nat) : Int) - 1 = (k : Int) := by omega
          have hkb7 : (k : Int) + 1 ≤ 20000 := by omega
          have hcu : Hid (Cu Mk f R H ((p, at2) :: Wz.drop (Wz.length - k)) hh bb (delL e0.key T)) := by
            rw [← rev_drop (by rw [← hzr]; exact hq2)]
            exact cu
          have mkq : Mm (wr.drewN nq) B Mk := mk.kept (fun _ _ => rfl)
          have frq := fr.drewN nq
          have tbq : (wr.drewN nq).heap[tb]? = some (tobj f R s) := htb2
          have p0q : (wr.drewN nq).cell? ⟨rb1, k * 2, none⟩ = some (.pointer (some ⟨p, 0, none⟩)) := p0
          have p1q : (wr.drewN nq).cell? ⟨rb1, k * 2 + 1, none⟩ = some (.int .i64 (at2 : Int)) := p1
          have hBq : B ≤ (wr.drewN nq).heap.size := hBr
          clear cu mk fr htb2 p0 p1 hBr hrr hS hfew ct0 hFr hq hc hc2 k0
          generalize wr.drewN nq = wq at *
          have hsq := frq.size
          go_wp2_with fail
          have hX := below_alloc1 wq (.cells #[.pointer (some ⟨p, 0, none⟩), .int .i64 (at2 : Int)] 76)
          have mx := mkq.below hX
          have hx0 : (wq.alloc (.cells #[.pointer (some ⟨p, 0, none⟩), .int .i64 (at2 : Int)] 76)).heap[wq.heap.size]? = some (.cells #[.pointer (some ⟨p, 0, none⟩), .int .i64 (at2 : Int)] 76 (0, 0)) := heap_alloc_new _ _
          have hxt := (hX.block tb (Array.getElem?_eq_some_iff.1 tbq).1).trans tbq
          have frx := frq.alloc (.cells #[.pointer (some ⟨p, 0, none⟩), .int .i64 (at2 : Int)] 76)
          have hXs := hX.size
          clear p0q p1q tbq mkq frq
          generalize (wq.alloc (.cells #[.pointer (some ⟨p, 0, none⟩), .int .i64 (at2 : Int)] 76)) = wx at *
          have hnx : ¬ Ft Mk wq.heap.size := fun q => mx.not_spot q hx0
          have hnt : ¬ Ft Mk tb := fun q => mx.not_tree q hxt
          obtain ⟨pre, L, post, Fo, F, sp, hTT⟩ := hcu.out.ex
          have hme := mend_any (w := wx.drew) (mx.kept (fun _ _ => rfl)) (Nat.le_trans hBq hXs) sp hf3 hf (by rw [← hTT]; omega)
          have HTT : Hid (delL e0.key T = pre ++ L ++ post) := hTT
          clear hTT sp hcu
          have hS1 : wx.drew.heap[wq.heap.size]? = some (.cells #[.pointer (some ⟨p, 0, none⟩), .int .i64 (at2 : Int)] 76 (0, 0)) ∧ wx.drew.heap[tb]? = some (tobj f R s) := ⟨hx0, hxt⟩
          have CH : Hid (∀ V : World, V.heap[wq.heap.size]? = some (.cells #[.pointer (some ⟨p, 0, none⟩), .int .i64 (at2 : Int)] 76 (0, 0)) ∧ V.heap[tb]? = some (tobj f R s) → V.cell? ⟨wq.heap.size, 0, none⟩ = some (.pointer (some ⟨p, 0, none⟩)) ∧ V.cell? ⟨wq.heap.size, 1, none⟩ = some (.int .i64 (at2 : Int)) ∧ V.cell? ⟨tb, 0, none⟩ = some (.int .i64 (f : Int))) := fun V g => ⟨(cell_obj (j := 0) g.1).1, (cell_obj (j := 1) g.1).1, (cell_obj (j := 0) g.2).1⟩
          have HX2 : Hid (wx.drew.heap[wq.heap.size]? = some (.cells #[.pointer (some ⟨p, 0, none⟩), .int .i64 (at2 : Int)] 76 (0, 0)) ∧ wx.drew.heap[tb]? = some (tobj f R s)) := hS1
          clear hx0 hxt
          refine wp_region_held_drew (S := fun V => V.heap[wq.heap.size]? = some (.cells #[.pointer (some ⟨p, 0, none⟩), .int .i64 (at2 : Int)] 76 (0, 0)) ∧ V.heap[tb]? = some (tobj f R s)) (by kernel_rfl) (hS1) (fun hHeld => ?_)
          refine takeH 0 73 (v := .pointer (some ⟨wq.heap.size, 0, none⟩)) rfl rfl (by kernel_rfl) (by kernel_rfl) (by kernel_rfl) (fun _ _ _ h => h) (Or.inl ⟨by rfl, by (intro W hSw; obtain ⟨s1, s2, s3⟩ := CH.out W hSw; go_simp)⟩) hHeld ?_
          simp only [List.setIfInBounds_toArray, List.set_cons_zero, List.set_cons_succ]
          refine takeH 1 74 (v := .pointer (some ⟨p, 0, none⟩)) rfl rfl (by kernel_rfl) (by kernel_rfl) (by kernel_rfl) (fun _ _ _ h => h) (Or.inl ⟨by rfl, by (intro W hSw; obtain ⟨s1, s2, s3⟩ := CH.out W hSw; go_simp)⟩) hHeld ?_
          simp only [List.setIfInBounds_toArray, List.set_cons_zero, List.set_cons_succ]
          refine takeH 2 75 (v := .pointer (some ⟨wq.heap.size, 1, none⟩)) rfl rfl (by kernel_rfl) (by kernel_rfl) (by kernel_rfl) (fun _ _ _ h => h) (Or.inl ⟨by rfl, by (intro W hSw; obtain ⟨s1, s2, s3⟩ := CH.out W hSw; go_simp)⟩) hHeld ?_
          simp only [List.setIfInBounds_toArray, List.set_cons_zero, List.set_cons_succ]
          refine takeH 3 76 (v := .int .i64 (at2 : Int)) rfl rfl (by kernel_rfl) (by kernel_rfl) (by kernel_rfl) (fun _ _ _ h => h) (Or.inl ⟨by rfl, by (intro W hSw; obtain ⟨s1, s2, s3⟩ := CH.out W hSw; go_simp)⟩) hHeld ?_
          simp only [List.setIfInBounds_toArray, List.set_cons_zero, List.set_cons_succ]
          refine takeH 4 77 (v := .pointer (some ⟨tb, 0, none⟩)) rfl rfl (by kernel_rfl) (by kernel_rfl) (by kernel_rfl) (fun _ _ _ h => h) (Or.inl ⟨by rfl, by (intro W hSw; obtain ⟨s1, s2, s3⟩ := CH.out W hSw; go_simp)⟩) hHeld ?_
          simp only [List.setIfInBounds_toArray, List.set_cons_zero, List.set_cons_succ]
          refine takeH 5 78 (v := .pointer (some ⟨tb, 0, none⟩)) rfl rfl (by kernel_rfl) (by kernel_rfl) (by kernel_rfl) (fun _ _ _ h => h) (Or.inl ⟨by rfl, by (intro W hSw; obtain ⟨s1, s2, s3⟩ := CH.out W hSw; go_simp)⟩) hHeld ?_
          simp only [List.setIfInBounds_toArray, List.set_cons_zero, List.set_cons_succ]
          refine takeH 6 79 (v := .pointer (some ⟨tb, 0, none⟩)) rfl rfl (by kernel_rfl) (by kernel_rfl) (by kernel_rfl) (fun _ _ _ h => h) (Or.inl ⟨by rfl, by (intro W hSw; obtain ⟨s1, s2, s3⟩ := CH.out W hSw; go_simp)⟩) hHeld ?_
          simp only [List.setIfInBounds_toArray, List.set_cons_zero, List.set_cons_succ]
          refine takeH 7 80 (v := .int .i64 (f : Int)) rfl rfl (by kernel_rfl) (by kernel_rfl) (by kernel_rfl) (fun _ _ _ h => h) (Or.inl ⟨by rfl, by (intro W hSw; obtain ⟨s1, s2, s3⟩ := CH.out W hSw; go_simp)⟩) hHeld ?_
          simp only [List.setIfInBounds_toArray, List.set_cons_zero, List.set_cons_succ]
          refine wpAnyH_ready (rs := [8]) (by kernel_rfl) (by simp) ?_
          refine AllReadyH.cons rfl (fun K hK => ?_) AllReadyH.nil
          go_simp
          refine hme.mono ?_
          rintro e w9 ⟨rfl, M9, pre', L', post', Fo', F', m9, to9, sp9, hT9⟩
          go_simp
          have lt : ∀ {k : Nat} {o : Obj}, wx.drew.heap[k]? = some o → k < wx.drew.heap.size := fun h => (Array.getElem?_eq_some_iff.1 h).1
          refine hK.out _ _ ⟨(to9.fr.block _ (lt HX2.out.1) hnx).trans HX2.out.1, (to9.fr.block _ (lt HX2.out.2) hnt).trans HX2.out.2⟩ (fun _ => ?_)
          clear hK K
          refine wpAnyH_done (by kernel_rfl) ?_ _
          go_wp2_with fail
          go_roundg k
          case rel =>
            refine ⟨k, hh + 1, p, at2, M9, rfl, Nat.le_refl _, by omega, hq2, m9, ⟨pre', L', post', Fo', F', sp9, HTT.out.trans hT9⟩, frx.drew.trans to9.fr (fun i hi g => (ftk i g).elim id (fun q => by omega)), fun k' hk' => ?_⟩
            rcases to9.ft k' hk' with g | g
            · exact ftk k' g
            · exact Or.inr (Nat.le_trans (Nat.le_trans hsq hXs) g)
          case measure => omega
        · rw [decide_eq_false hfw] at hfew
          have hcd := cu.stop (fun _ => ⟨nb, hnb, by omega⟩)
          go_wp2_with fail
          go_quiet ((go_at_call 50; exact Calls.quiet_of_same (hfew _)))
          go_wp2_with fail
          exact HEND.out _ _ _ _ _ _ _ _ _ _ _ _ _ _ _ _ _ _ _ _ _ _ _ _ _ _ _ _ _ _ _ _ _ _ _ _ _ _ _ _ _ _ _ _ _ _ _ _ _ _ _ Mk (mk.kept (fun _ _ => rfl)) hBr htb2 hcd (hFr.drewN nq) hFt
  obtain ⟨pre0, L0, post0, Fo0, F0, n0, sp0, hT0, hn0, hx0, hful0⟩ := hd.ex
  have hH0 := sp0.up.height
  have HW1 : Hid (w1.heap.size = w1.heap.size) := hide rfl
  have hmt : ¬ Ft M tb := fun q => m.not_tree q ht
  have hw1s : w.heap.size ≤ w1.heap.size := by have := hb1.size; simpa using this
  have hset : (w.setCell ⟨tb, 2, none⟩ (.int .i64 (s : Int))).heap[tb]? = some (tobj f R s) := heap_setCell_same w tb 2 _ _ _ ht
  have hb2 := below_alloc1 w1 (.cells #[.pointer (some ⟨b, 0, none⟩), .int .i64 (i : Int)] 76)
  have mW := (((m.out (o := 2) (v := .int .i64 (s : Int)) hmt).below hb1).below hb2)
  have rW := (HR1.out.below' hb1).below' hb2
  have htW := (hb2.block tb (by have := (Array.getElem?_eq_some_iff.1 ht).1; omega)).trans ((hb1.block tb (by have := (Array.getElem?_eq_some_iff.1 ht).1; simpa using this)).trans hset)
  have hxW : (w1.alloc (.cells #[.pointer (some ⟨b, 0, none⟩), .int .i64 (i : Int)] 76)).heap[w1.heap.size]? = some (.cells #[.pointer (some ⟨b, 0, none⟩), .int .i64 (i : Int)] 76 (0, 0)) := heap_alloc_new _ _
  have fW : Fr (fun k => Ft M k ∨ k = tb ∨ v.ownBlock = some k) w (w1.alloc (.cells #[.pointer (some ⟨b, 0, none⟩), .int .i64 (i : Int)] 76)) := (((Fr.set (F := fun k => Ft M k ∨ k = tb ∨ v.ownBlock = some k) (p := ⟨tb, 2, none⟩) (Fr.refl _ w) (Or.inl (Or.inr (Or.inl rfl))) _).trans (Fr.of_below (F := fun _ => False) hb1) (fun _ _ g => g.elim)).alloc _)
  have hWs := hb2.size
  have hBW : B ≤ (w1.alloc (.cells #[.pointer (some ⟨b, 0, none⟩), .int .i64 (i : Int)] 76)).heap.size := by omega
  by_cases h0 : h = 0
  · subst h0
    have hend := end_yes mW hn0 ((sp0.tr.ks_nil hn0).2 rfl)
    have hrd := hd.end0 hsrt
    clear t2 tf2 hset hK3
    go_wp2_with ((try go_at_call 39); refine hend.mono ?_; rintro e w6 ⟨rfl, h6⟩; rw [h6]; clear h6 w6)
    exact HMID.out _ _ _ _ _ _ _ _ _ _ _ _ _ _ _ _ _ _ M up b i i w1.heap.size mW hBW rW hv hxW htW hrd (by omega) fW (fun k hk => Or.inl hk) hw1s
  · have hend := end_no mW hn0 (fun q => h0 ((sp0.tr.ks_nil hn0).1 q))
    have hlw := hd.lw
    have hlo := lower_any mW (B2 := 0) (Nat.zero_le _) rW (fun k e => (hv k e).1) hlw hf3 hH hT
    clear t2 tf2 hset hK3
    obtain ⟨xo, hxo⟩ : ∃ xo, w1.heap.size = xo := ⟨_, rfl⟩
    have HXW : Hid (w.heap.size ≤ xo) := by rw [← hxo]; exact hw1s
    have hxvW : ∀ k, v.ownBlock = some k → k ≠ xo := fun k e => by have := (hr.blk e).2; omega
    rw [hxo] at hxW
    have HBW : Hid (xo < (w1.alloc (.cells #[.pointer (some ⟨b, 0, none⟩), .int .i64 (i : Int)] 76)).heap.size) := (Array.getElem?_eq_some_iff.1 hxW).1
    go_wp2_with ((try go_at_call 39); refine hend.mono ?_; rintro e w6 ⟨rfl, h6⟩; rw [h6]; clear h6 w6)
    go_at_call 42
    refine hlo.mono ?_
    clear hlo
    rintro e w2 ⟨v2, upc, bc, jc, rfl, row2, fr2, own2, lw2⟩
    obtain ⟨nx, nc, y, j, hj, hn, hi, hnc, hy, hne, hrd0⟩ := hd.swap lw2 h0 hf3 hsrt
    have HJ : Hid (jc = j + 1) := hj
    have hjp := lw2.place hT
    have hjb : j ≤ 20000 := by omega
    clear hj
    rw [hn0] at hn; cases hn
    go_wp2_with (first | (go_at_call 30; refine (last_any row2 (q := (bc, jc)) (by simp)).mono ?_; rintro e w3 ⟨rfl, hb3⟩) | (go_at_call 43; refine (before_any bc j jc HJ.out.symm (by omega)).mono ?_; rintro e w4 ⟨rfl, hb4⟩))
    have hv2 : ∀ k, v2.ownBlock = some k → ¬ Ft M k ∧ k ≠ tb ∧ k ≠ xo := fun k e => by
      rcases own2 k e with g | g
      · exact ⟨(hv k g).1, (hv k g).2, hxvW k g⟩
      · have g2 := HBW.out
        exact ⟨fun q => by have := (mW.lt q).2; omega, fun q => by have := (Array.getElem?_eq_some_iff.1 htW).1; omega, fun q => by omega⟩
    have mn2 := mW.kept (fun k hk => fr2.block k (mW.lt hk).2 (fun e => (hv k e).1 hk))
    have b34 : Below w2.heap.size w2 (w4.alloc (.cells #[.pointer (some ⟨bc, 0, none⟩), .int .i64 (j : Int)] 76)) := below2 (below2 hb3 hb4) (below_alloc1 _ _)
    have mn := mn2.below b34
    have rn := row2.below' b34
    have lt : ∀ {k : Nat} {o : Obj}, (w1.alloc (.cells #[.pointer (some ⟨b, 0, none⟩), .int .i64 (i : Int)] 76)).heap[k]? = some o → k < (w1.alloc (.cells #[.pointer (some ⟨b, 0, none⟩), .int .i64 (i : Int)] 76)).heap.size := fun h => (Array.getElem?_eq_some_iff.1 h).1
    have xn := (b34.block xo (Nat.lt_of_lt_of_le HBW.out fr2.size)).trans ((fr2.block xo HBW.out (fun e => hxvW xo e rfl)).trans hxW)
    have tn := (b34.block tb (Nat.lt_of_lt_of_le (lt htW) fr2.size)).trans ((fr2.block tb (lt htW) (fun e => (hv tb e).2 rfl)).trans htW)
    have nn : (w4.alloc (.cells #[.pointer (some ⟨bc, 0, none⟩), .int .i64 (j : Int)] 76)).heap[w4.heap.size]? = some (.cells #[.pointer (some ⟨bc, 0, none⟩), .int .i64 (j : Int)] 76 (0, 0)) := heap_alloc_new _ _
    have fn : Fr (fun k => Ft M k ∨ k = tb ∨ v.ownBlock = some k) w (w4.alloc (.cells #[.pointer (some ⟨bc, 0, none⟩), .int .i64 (j : Int)] 76)) := (fW.trans fr2 (fun _ _ g => Or.inr (Or.inr g))).trans (Fr.of_below (F := fun _ => False) b34) (fun _ _ g => g.elim)
    obtain ⟨xN, hxN⟩ : ∃ xN, w4.heap.size = xN := ⟨_, rfl⟩
    rw [hxN] at nn ⊢
    have hxb : w.heap.size ≤ xN := by
      have h3 := hb3.size
      have h4 := hb4.size
      have h5 := fr2.size
      omega
    have hulen : upc.length ≤ H := by have := lw2.high; omega
    clear hb3 hb4 row2 fr2 own2 lw2 b34 fW mn2 htW hxW mW rW hv hr
    generalize (w4.alloc (.cells #[.pointer (some ⟨bc, 0, none⟩), .int .i64 (j : Int)] 76)) = Wn at *
    obtain ⟨rbi, rci, ei, _, _, hrbi, q1, q2, q3, q4⟩ := mn.ent hn0 hi
    obtain ⟨rbc, rcc, ec, _, _, hrbc, y1, y2, _, _⟩ := mn.ent hnc hy
    have lt2 : ∀ {k : Nat} {o : Obj}, Wn.heap[k]? = some o → k < Wn.heap.size := fun h => (Array.getElem?_eq_some_iff.1 h).1
    have hio : n0.ev.ownBlock = some rbi := by rw [ei]; rfl
    have hne1 : xo ≠ rbi := fun q => mn.not_spot ⟨b, n0, hn0, Or.inr (Or.inl (q ▸ hio))⟩ xn
    have hne2 : xN ≠ rbi := fun q => mn.not_spot ⟨b, n0, hn0, Or.inr (Or.inl (q ▸ hio))⟩ nn
    have hne3 : tb ≠ rbi := fun q => mn.not_tree ⟨b, n0, hn0, Or.inr (Or.inl (q ▸ hio))⟩ tn
    have HXX : Hid (xo ≠ rbi ∧ xN ≠ rbi ∧ tb ≠ rbi) := ⟨hne1, hne2, hne3⟩
    have CE : Hid (∀ V, Below Wn.heap.size Wn V → V.cell? ⟨xo, 0, none⟩ = some (.pointer (some ⟨b, 0, none⟩)) ∧ V.cell? ⟨xo, 1, none⟩ = some (.int .i64 (i : Int)) ∧ V.cell? ⟨xN, 0, none⟩ = some (.pointer (some ⟨bc, 0, none⟩)) ∧ V.cell? ⟨xN, 1, none⟩ = some (.int .i64 (j : Int)) ∧ V.cell? ⟨rbc, j * 2, none⟩ = some (.string y.key) ∧ V.cell? ⟨rbc, j * 2 + 1, none⟩ = some (.int .i64 y.n) ∧ V.cell? ⟨rbi, i * 2, none⟩ = some (.string e0.key) ∧ V.cell? ⟨rbi, i * 2 + 1, none⟩ = some (.int .i64 e0.n) ∧ V.frozen? ⟨rbi, i * 2, none⟩ = false ∧ V.frozen? ⟨rbi, i * 2 + 1, none⟩ = false ∧ True ∧ True) := fun V g => by
      have x1 := (g.block xo (lt2 xn)).trans xn
      have x2 := (g.block xN (lt2 nn)).trans nn
      obtain ⟨rb1, rc1, e1, _, _, _, a1, a2, a3, a4⟩ := (mn.below g).ent hn0 hi
      obtain ⟨rb2, rc2, e2, _, _, _, c1, c2, _, _⟩ := (mn.below g).ent hnc hy
      rw [ei] at e1
      rw [ec] at e2
      injection e1 with e1 _ _
      injection e1 with e1
      injection e1 with e1 _ _
      injection e2 with e2 _ _
      injection e2 with e2
      injection e2 with e2 _ _
      subst e1 e2
      exact ⟨(cell_obj (j := 0) x1).1, (cell_obj (j := 1) x1).1, (cell_obj (j := 0) x2).1, (cell_obj (j := 1) x2).1, c1, c2, a1, a2, a3, a4, trivial, trivial⟩
    have HEA : Hid (∀ V, Below Wn.heap.size Wn V → Calls Try.prog 31 #[.agg #[.pointer (some ⟨b, 0, none⟩), .int .i64 (i : Int)]] V fun e w' => e = .returned (.pointer (some ⟨rbi, i * 2, none⟩)) ∧ Below V.heap.size V w') := fun V g => (entry_any (mn.below g) hn0 hi).mono (by
      rintro e w' ⟨⟨rb1, c1, e1, rfl⟩, hb⟩
      rw [ei] at e1
      injection e1 with e1 _ _
      injection e1 with e1
      injection e1 with e1 _ _
      subst e1
      exact ⟨rfl, hb⟩)
    have HEC : Hid (∀ V, Below Wn.heap.size Wn V → Calls Try.prog 31 #[.agg #[.pointer (some ⟨bc, 0, none⟩), .int .i64 (j : Int)]] V fun e w' => e = .returned (.pointer (some ⟨rbc, j * 2, none⟩)) ∧ Below V.heap.size V w') := fun V g => (entry_any (mn.below g) hnc hy).mono (by
      rintro e w' ⟨⟨rb1, c1, e1, rfl⟩, hb⟩
      rw [ec] at e1
      injection e1 with e1 _ _
      injection e1 with e1
      injection e1 with e1 _ _
      subst e1
      exact ⟨rfl, hb⟩)
    have HFIN : Hid (∀ V, Below Wn.heap.size Wn V → Mm ((V.setCell ⟨rbi, i * 2, none⟩ (.string y.key)).setCell ⟨rbi, i * 2 + 1, none⟩ (.int .i64 y.n)) B (M.put b ⟨n0.ev, n0.kv, n0.es.set i y, n0.ks⟩) ∧ RowS ((V.setCell ⟨rbi, i * 2, none⟩ (.string y.key)).setCell ⟨rbi, i * 2 + 1, none⟩ (.int .i64 y.n)) 0 v2 (upc.reverse ++ [(bc, jc)]) ∧ ((V.setCell ⟨rbi, i * 2, none⟩ (.string y.key)).setCell ⟨rbi, i * 2 + 1, none⟩ (.int .i64 y.n)).heap[xo]? = some (.cells #[.pointer (some ⟨b, 0, none⟩), .int .i64 (i : Int)] 76 (0, 0)) ∧ ((V.setCell ⟨rbi, i * 2, none⟩ (.string y.key)).setCell ⟨rbi, i * 2 + 1, none⟩ (.int .i64 y.n)).heap[xN]? = some (.cells #[.pointer (some ⟨bc, 0, none⟩), .int .i64 (j : Int)] 76 (0, 0)) ∧ ((V.setCell ⟨rbi, i * 2, none⟩ (.string y.key)).setCell ⟨rbi, i * 2 + 1, none⟩ (.int .i64 y.n)).heap[tb]? = some (tobj f R s) ∧ Fr (fun k => Ft M k ∨ k = tb ∨ v.ownBlock = some k) w ((V.setCell ⟨rbi, i * 2, none⟩ (.string y.key)).setCell ⟨rbi, i * 2 + 1, none⟩ (.int .i64 y.n)) ∧ ∀ k, Ft (M.put b ⟨n0.ev, n0.kv, n0.es.set i y, n0.ks⟩) k → Ft M k ∨ w.heap.size ≤ k) := fun V g => by
      obtain ⟨g1, g2⟩ := (mn.below g).store (y := y) hn0 hi ei
      obtain ⟨n1, n2, n3⟩ := HXX.out
      have hw : w.heap.size ≤ V.heap.size := Nat.le_trans fn.size g.size
      refine ⟨g1, (rn.below' g).kept (fun k e => ?_), ?_, ?_, ?_, (fn.trans (Fr.of_below (F := fun _ => False) g) (fun _ _ q => q.elim)).trans g2.fr (fun _ _ q => Or.inl q), fun k hk => (g2.ft k hk).imp id (fun q => Nat.le_trans hw q)⟩
      · have hk : k ≠ rbi := fun q => (hv2 k e).1 ⟨b, n0, hn0, Or.inr (Or.inl (q ▸ hio))⟩
        rw [set_other hk, set_other hk]
      · rw [set_other n1, set_other n1]; exact (g.block xo (lt2 xn)).trans xn
      · rw [set_other n2, set_other n2]; exact (g.block xN (lt2 nn)).trans nn
      · rw [set_other n3, set_other n3]; exact (g.block tb (lt2 tn)).trans tn
    have HBV : Hid (∀ V5, Fr (fun k => Ft M k ∨ k = tb ∨ v.ownBlock = some k) w V5 → B ≤ V5.heap.size) := fun V5 g => Nat.le_trans hB g.size
    have HOV : Hid (∀ k, v2.ownBlock = some k → k ≠ xo ∧ ¬ Ft (M.put b ⟨n0.ev, n0.kv, n0.es.set i y, n0.ks⟩) k ∧ k ≠ tb) := fun k e => by
      refine ⟨(hv2 k e).2.2, fun q => ?_, (hv2 k e).2.1⟩
      obtain ⟨b', n', h1, h2⟩ := q
      by_cases hbb : b' = b
      · subst hbb
        rw [Mp.put_same] at h1; cases h1
        exact (hv2 k e).1 ⟨b', n0, hn0, h2⟩
      · rw [Mp.put_other _ _ hbb] at h1
        exact (hv2 k e).1 ⟨b', n', h1, h2⟩
    have HOT : Hid (tb ≠ xo) := fun q => by rw [q, xn] at tn; simp [tobj] at tn
    have hrd : Hid (∀ n', n'.es = n0.es.set i y → n'.ks = n0.ks → Rd (M.put b n') f R H upc bc j (delL e0.key T)) := hrd0
    clear hrd0 q1 q2 q3 q4 y1 y2 hne1 hne2 hne3 xn tn nn mn rn fn lt2 lt hv2 hio ei ec
    refine anyL_begin (S := fun V => Below Wn.heap.size Wn V) (n := 7) (by kernel_rfl) ((Below.refl _ _).drew) (fun hHeld => ?_)
    generalize Wn.drew = Wd at hHeld ⊢
    refine takeL 0 26 (v := .agg #[.pointer (some ⟨b, 0, none⟩), .int .i64 (i : Int)]) rfl rfl (by kernel_rfl) (by kernel_rfl) (by kernel_rfl) (by kernel_rfl) (fun _ _ _ h => h) (Or.inl ⟨by rfl, by (intro W hSw; obtain ⟨s1, s2, s3, s4, s5, s6, s7, s8, s9, s10, s11, s12⟩ := CE.out W hSw; go_simp)⟩) hHeld ?_
    simp only [List.setIfInBounds_toArray, List.set_cons_zero, List.set_cons_succ]
    refine takeL 2 28 (v := .agg #[.pointer (some ⟨bc, 0, none⟩), .int .i64 (j : Int)]) rfl rfl (by kernel_rfl) (by kernel_rfl) (by kernel_rfl) (by kernel_rfl) (fun _ _ _ h => h) (Or.inl ⟨by rfl, by (intro W hSw; obtain ⟨s1, s2, s3, s4, s5, s6, s7, s8, s9, s10, s11, s12⟩ := CE.out W hSw; go_simp)⟩) hHeld ?_
    simp only [List.setIfInBounds_toArray, List.set_cons_zero, List.set_cons_succ]
    refine anyL_one 1 (by kernel_rfl) (upL rfl (fun K hK => ?_))
    go_simp
    refine (HEA.out _ hHeld).mono ?_
    rintro e w5 ⟨rfl, fb5⟩
    go_simp
    refine hK.out _ _ (fun _ => below2 hHeld fb5) (fun hHeld0 => ?_)
    have hHeld := hHeld0 (by decide)
    clear hHeld0 hK K
    (try simp only [Act.put, List.setIfInBounds_toArray, List.set_cons_zero, List.set_cons_succ])
    refine anyL_one 3 (by kernel_rfl) (upL rfl (fun K hK => ?_))
    go_simp
    refine (HEC.out _ hHeld).mono ?_
    rintro e w5 ⟨rfl, fb5⟩
    go_simp
    refine hK.out _ _ (fun _ => below2 hHeld fb5) (fun hHeld0 => ?_)
    have hHeld := hHeld0 (by decide)
    clear hHeld0 hK K
    (try simp only [Act.put, List.setIfInBounds_toArray, List.set_cons_zero, List.set_cons_succ])
    refine takeL 4 30 (v := .pointer (some ⟨rbc, j * 2, none⟩)) rfl rfl (by kernel_rfl) (by kernel_rfl) (by kernel_rfl) (by kernel_rfl) (fun _ _ _ h => h) (Or.inl ⟨by rfl, by (intro W hSw; obtain ⟨s1, s2, s3, s4, s5, s6, s7, s8, s9, s10, s11, s12⟩ := CE.out W hSw; go_simp)⟩) hHeld ?_
    simp only [List.setIfInBounds_toArray, List.set_cons_zero, List.set_cons_succ]
    refine takeL 5 31 (v := .agg #[.string y.key, .int .i64 y.n]) rfl rfl (by kernel_rfl) (by kernel_rfl) (by kernel_rfl) (by kernel_rfl) (fun _ _ _ h => h) (Or.inl ⟨by rfl, by (intro W hSw; obtain ⟨s1, s2, s3, s4, s5, s6, s7, s8, s9, s10, s11, s12⟩ := CE.out W hSw; go_simp)⟩) hHeld ?_
    simp only [List.setIfInBounds_toArray, List.set_cons_zero, List.set_cons_succ]
    obtain ⟨s1, s2, s3, s4, s5, s6, s7, s8, s9, s10, s11, s12⟩ := CE.out _ hHeld
    refine anyL_one 6 (by kernel_rfl) (upL rfl (fun K hK => ?_))
    go_simp
    refine hK.out _ _ (fun _ => hHeld) (fun hHeld0 => ?_)
    have hHeld := hHeld0 (by decide)
    clear hHeld0 hK K
    (try simp only [Act.put, List.setIfInBounds_toArray, List.set_cons_zero, List.set_cons_succ])
    refine anyL_one 7 (by kernel_rfl) (upL rfl (fun K hK => ?_))
    go_simp
    refine hK.out _ _ (fun q => absurd rfl q) (fun _ => ?_)
    clear hK K
    (try simp only [Act.put, List.setIfInBounds_toArray, List.set_cons_zero, List.set_cons_succ])
    refine anyL_done (by kernel_rfl) ?_ _
    obtain ⟨mV, rV, xV, nV, tV, fV, ftV⟩ := HFIN.out _ hHeld
    generalize (World.setCell (World.setCell _ _ _) _ _) = V5 at *
    obtain ⟨x0, y0⟩ := cell_obj (j := 0) xV
    obtain ⟨x1, y1⟩ := cell_obj (j := 1) xV
    obtain ⟨z0, _⟩ := cell_obj (j := 0) nV
    obtain ⟨z1, _⟩ := cell_obj (j := 1) nV
    clear s1 s2 s3 s4 s5 s6 s7 s8 s9 s10 s11 s12
    go_wp2_with fail
    have hx9 := spot_set (u := .pointer (some ⟨bc, 0, none⟩)) (v := .int .i64 (j : Int)) xV
    have hxo := mV.not_spot (k := xo) (cs := #[.pointer (some ⟨b, 0, none⟩), .int .i64 (i : Int)])
    have hnf : ¬ Ft (M.put b ⟨n0.ev, n0.kv, n0.es.set i y, n0.ks⟩) xo := fun q => hxo q xV
    exact HMID.out _ _ _ _ _ _ _ _ _ _ _ _ _ _ _ _ _ _ _ upc bc jc j xo ((mV.out hnf).out hnf) (by simpa using HBV.out V5 fV) (rV.kept (fun k e => (set_other (HOV.out k e).1).trans (set_other (HOV.out k e).1))) (fun k e => ⟨(HOV.out k e).2.1, (HOV.out k e).2.2⟩) hx9 ((set_other HOT.out).trans ((set_other HOT.out).trans tV)) (hrd.out ⟨n0.ev, n0.kv, n0.es.set i y, n0.ks⟩ rfl rfl) (by omega) (Fr.set (p := ⟨xo, 1, none⟩) (Fr.set (p := ⟨xo, 0, none⟩) fV (Or.inr HXW.out) _) (Or.inr HXW.out) _) ftV HXW.out

end Go.Proofs.Ytkfoddblgdmabaa.tr

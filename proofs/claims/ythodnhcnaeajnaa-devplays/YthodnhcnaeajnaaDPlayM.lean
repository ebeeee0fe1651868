/- DevPlays: the walk, many sectors. -/
import Derived.Test.YthodnhcnaeajnaaDCopy
import Derived.Deep.RegionHeld3
namespace Go.Proofs.Ythodnhcnaeajnaa
open Go.RowKit

set_option maxHeartbeats 40000000 in
set_option maxRecDepth 100000 in
theorem devPlays_many (x : Int) (n : Nat) (L : List St) (a : Option Addr) (c : Nat) (w : World) (hsl : SlS w a L) (hall : ∀ p ∈ L, p.ok w) (hn1 : 1 ≤ n) (hn2 : n ≤ 200) (hx1 : 200 < x) (hx2 : x ≤ 8192) (hx3 : x.tmod 200 = (n : Int)) :
    Calls Try.prog 3 #[.int .i64 x, .slice a L.length c] w fun e w' => e = .returned (.bool true) ∧ Below w.heap.size w w' := by
  have hd0 : decide ((200 : Int) < x) = true := by simpa using hx1
  have hd1 : decide (x ≤ 8192) = true := by simpa using hx2
  clear hx1 hx2
  have cN := new_any n w hn1 (by omega)
  have cR := fun w => rnew_any n w hn1 (by omega)
  go_enter Try.func3, Try.ntmps3
  go_wp2_with fail
  refine cN.mono ?_
  rintro e w1 ⟨g, gs, rfl, d1, b1⟩
  go_wp2_with fail
  refine (cR _).mono ?_
  rintro e w2 ⟨q, h, rfl, r2, b2⟩
  have t0 := two_new d1 b1 r2 b2
  clear d1 r2 cN cR b1 b2
  go_wp2_with fail
  go_loopw [9] (fun si wr => ∃ (i : Nat) (hv : Value) (h : RH) (D : DS) (Q : RS), i ≤ L.length ∧ i ≤ 200 ∧ si = .int .i64 (i : Int) ∧ Two w wr g gs hv D q h Q ∧ Inv i D ∧ Rel D Q) (fun si _ => 200 - (intOf si).toNat)
  case atStart => exact ⟨0, _, _, _, _, Nat.zero_le _, Nat.zero_le _, rfl, t0, inv_new n hn1 (by omega), rel_new n⟩
  case round =>
    clear t0
    obtain ⟨i, hv, h, D, Q, hi1, hi2, rfl, t0, it0, rt0⟩ := hrel
    obtain ⟨Qn, hQn⟩ : ∃ Qn, Q.n = Qn := ⟨_, rfl⟩
    have hQ8 : Qn ≤ 8192 := by have := it0.n; have := rt0.n; omega
    by_cases hlt : i < L.length
    · have hlt2 : (i : Int) < (L.length : Int) := by omega
      by_cases h200 : i < 200
      · have h2002 : (i : Int) < 200 := by omega
        have hx : L[i]? = some L[i] := by simp [hlt]
        generalize L[i] = p at hx
        have hok := hall p (List.mem_of_getElem? hx)
        rcases hsl with hsl | ⟨b, off, rfl, hlb, hrd⟩
        · rw [hsl] at hlt; simp at hlt
        obtain ⟨e0, e1, e2, e3, e4⟩ := hrd i p hx
        have s0 := (t0.bel.cell (p := ⟨b, _, none⟩) hlb).trans e0
        have s1 := (t0.bel.cell (p := ⟨b, _, none⟩) hlb).trans e1
        have s2 := (t0.bel.cell (p := ⟨b, _, none⟩) hlb).trans e2
        have s3 := (t0.bel.cell (p := ⟨b, _, none⟩) hlb).trans e3
        have s4 := (t0.bel.cell (p := ⟨b, _, none⟩) hlb).trans e4
        clear e0 e1 e2 e3 e4 hrd hx hall hQn
        obtain ⟨t1, el1⟩ := t0.fresh (.cells #[.int .i64 p.kind, .int .i64 p.pos, .int .i64 p.n, .int .u8 (p.fill.toNat : Int), .slice p.ka p.keep.length p.kc] 33)
        have hW1 := heap_alloc_new wr (.cells #[.int .i64 p.kind, .int .i64 p.pos, .int .i64 p.n, .int .u8 (p.fill.toNat : Int), .slice p.ka p.keep.length p.kc] 33)
        by_cases h1000 : 1000 < p.keep.length
        · have d1000 : decide ((1000 : Int) < (p.keep.length : Int)) = true := by simp; omega
          go_wp2_with fail
          refine (wakes_any _).mono ?_
          rintro e v1 ⟨rfl, z1⟩
          go_wp2_with fail
          go_ret
          exact ⟨rfl, below2 t1.bel z1⟩
        · have d1000 : decide ((1000 : Int) < (p.keep.length : Int)) = false := by simp; omega
          have c1k : (wr.alloc (.cells #[.int .i64 p.kind, .int .i64 p.pos, .int .i64 p.n, .int .u8 (p.fill.toNat : Int), .slice p.ka p.keep.length p.kc] 33)).cell? ⟨wr.heap.size, 0, none⟩ = some (.int .i64 p.kind) := by simp
          have c1p : (wr.alloc (.cells #[.int .i64 p.kind, .int .i64 p.pos, .int .i64 p.n, .int .u8 (p.fill.toNat : Int), .slice p.ka p.keep.length p.kc] 33)).cell? ⟨wr.heap.size, 1, none⟩ = some (.int .i64 p.pos) := by simp
          have c1n : (wr.alloc (.cells #[.int .i64 p.kind, .int .i64 p.pos, .int .i64 p.n, .int .u8 (p.fill.toNat : Int), .slice p.ka p.keep.length p.kc] 33)).cell? ⟨wr.heap.size, 2, none⟩ = some (.int .i64 p.n) := by simp
          have c1f : (wr.alloc (.cells #[.int .i64 p.kind, .int .i64 p.pos, .int .i64 p.n, .int .u8 (p.fill.toNat : Int), .slice p.ka p.keep.length p.kc] 33)).cell? ⟨wr.heap.size, 3, none⟩ = some (.int .u8 (p.fill.toNat : Int)) := by simp
          have c1l : (wr.alloc (.cells #[.int .i64 p.kind, .int .i64 p.pos, .int .i64 p.n, .int .u8 (p.fill.toNat : Int), .slice p.ka p.keep.length p.kc] 33)).cell? ⟨wr.heap.size, 4, none⟩ = some (.slice p.ka p.keep.length p.kc) := by simp
          generalize hH : wr.heap.size = H at *
          by_cases k0 : p.kind = 0
          · have g0 : (p.kind == 0) = true := by simpa using k0
            clear k0
            obtain ⟨E0, D', Q', it, rt, c1, c2⟩ := write_both _ _ _ it0 rt0 (by omega) p.pos p.data
            have cdat := fun w => data_any p _ rfl w
            generalize p.data = S at c1 c2 cdat
            go_wp2_with fail
            generalize wr.alloc (.cells #[.int .i64 p.kind, .int .i64 p.pos, .int .i64 p.n, .int .u8 (p.fill.toNat : Int), .slice p.ka p.keep.length p.kc] 33) = W1 at t1 el1 c1k c1p c1n c1f c1l ⊢
            have tD : Two w W1.drew g gs hv D q h Q := t1.below (Below.refl _ _).drew
            have elD : Else W1.drew g gs hv q h H := el1
            clear s0 s1 s2 s3 s4 g0 d1000
            go_region_held3 (fun W => W.cell? ⟨H, 0, none⟩ = some (.int .i64 p.kind) ∧ W.cell? ⟨H, 1, none⟩ = some (.int .i64 p.pos) ∧ W.cell? ⟨H, 2, none⟩ = some (.int .i64 p.n) ∧ W.cell? ⟨H, 3, none⟩ = some (.int .u8 (p.fill.toNat : Int)) ∧ W.cell? ⟨H, 4, none⟩ = some (.slice p.ka p.keep.length p.kc))
              (first | exact ⟨(hB 0).trans c1k, (hB 1).trans c1p, (hB 2).trans c1n, (hB 3).trans c1f, (hB 4).trans c1l⟩ | exact ⟨c1k, c1p, c1n, c1f, c1l⟩ | go_keep)
              (first
                | (have _ := tC; go_at_call 13; refine (c2 _ _ _ _ tC.ref tC.bel.size).mono ?_; rintro e wR ⟨rfl, zR⟩; obtain ⟨h2, t, helR⟩ := tC.stepR zR; obtain ⟨el, eqR⟩ := helR H elC; have hB : ∀ o, wR.cell? ⟨H, o, none⟩ = W1.cell? ⟨H, o, none⟩ := fun o => (World.cell?_of_block (a := ⟨H, o, none⟩) eqR).trans (hB o))
                | (have _ := tB; go_at_call 12; refine (cdat _).mono ?_; rintro e wC ⟨rfl, zC⟩; have tC := tB.below zC; obtain ⟨elC, eqC⟩ := elB.below zC; have hB : ∀ o, wC.cell? ⟨H, o, none⟩ = W1.cell? ⟨H, o, none⟩ := fun o => (World.cell?_of_block (a := ⟨H, o, none⟩) eqC).trans (hB o))
                | (have _ := tA; go_at_call 11; refine (c1 _ _ _ _ _ tA.dev tA.bel.size).mono ?_; rintro e wB ⟨rfl, zB⟩; obtain ⟨hv1, tB, helB⟩ := tA.stepD zB; obtain ⟨elB, eqB⟩ := helB H elA; have hB : ∀ o, wB.cell? ⟨H, o, none⟩ = W1.cell? ⟨H, o, none⟩ := fun o => (World.cell?_of_block (a := ⟨H, o, none⟩) eqB).trans (hB o))
                | (go_at_call 12; refine (cdat _).mono ?_; rintro e wA ⟨rfl, zA⟩; have tA := tD.below zA; obtain ⟨elA, eqA⟩ := elD.below zA; have hB : ∀ o, wA.cell? ⟨H, o, none⟩ = W1.cell? ⟨H, o, none⟩ := fun o => World.cell?_of_block (a := ⟨H, o, none⟩) eqA))
            have cp := (hB 1).trans c1p

            obtain ⟨T, E, l, o, nn, dn, a1, a2, a3, a4, a5, a6, a7, a8, a9, a10⟩ := tells_both _ _ _ it rt p.pos
            go_wp2_with fail
            refine (a1 _ _ _ _ _ t.dev).mono ?_
            rintro e v1 ⟨rfl, z1⟩
            have t1 := t.below z1
            obtain ⟨el1, eq1⟩ := el.below z1
            have cp1 := (World.cell?_of_block (a := ⟨H, 1, none⟩) eq1).trans cp
            go_wp2_with fail
            refine (a2 _ _ _ _ t1.ref).mono ?_
            rintro e v2 ⟨rfl, z2⟩
            rw [z2]
            clear z2
            go_wp2_with fail
            refine (a3 _ _ _ _ _ t1.dev).mono ?_
            rintro e v3 ⟨rfl, z3⟩
            rw [z3]
            clear z3
            go_wp2_with fail
            refine (a4 _ _ _ _ t1.ref).mono ?_
            rintro e v4 ⟨rfl, z4⟩
            rw [z4]
            clear z4
            go_wp2_with fail
            refine (a5 _ _ _ _ _ t1.dev).mono ?_
            rintro e v5 ⟨rfl, z5⟩
            rw [z5]
            clear z5
            go_wp2_with fail
            refine (a6 _ _ _ _ t1.ref).mono ?_
            rintro e v6 ⟨rfl, z6⟩
            rw [z6]
            clear z6
            go_wp2_with fail
            refine (a7 _ _ _ _ _ t1.dev).mono ?_
            rintro e v7 ⟨rfl, z7⟩
            rw [z7]
            clear z7
            go_wp2_with fail
            refine (a8 _ _ _ _ t1.ref).mono ?_
            rintro e v8 ⟨rfl, z8⟩
            rw [z8]
            clear z8
            go_wp2_with fail
            refine (a9 _ _ _ _ _ t1.dev).mono ?_
            rintro e v9 ⟨rfl, z9⟩
            rw [z9]
            clear z9
            go_wp2_with fail
            refine (a10 _ _ _ _ t1.ref).mono ?_
            rintro e v10 ⟨rfl, z10⟩
            rw [z10]
            clear z10
            go_wp2_with fail
            go_roundw
            case rel => exact ⟨i + 1, _, _, _, _, by omega, by omega, by go_num, t1, it, rt⟩
            case measure => simp [intOf]; omega

          have g0 : (p.kind == 0) = false := by simpa using k0
          by_cases k2 : p.kind = 2
          · have g2 : (p.kind == 2) = true := by simpa using k2
            clear k0 k2
            obtain ⟨E0, D', Q', it, rt, c1, c2⟩ := flush_both _ _ _ it0 rt0 (by omega)
            go_wp2_with fail
            refine (c1 _ _ _ _ _ t1.dev).mono ?_
            rintro e v1 ⟨rfl, z1⟩
            obtain ⟨hv1, t2, hel⟩ := t1.stepD z1
            obtain ⟨el2, eq2⟩ := hel H el1
            go_wp2_with fail
            refine (c2 _ _ _ _ t2.ref t2.bel.size).mono ?_
            rintro e v2 ⟨rfl, z2⟩
            obtain ⟨h2, t, hel2⟩ := t2.stepR z2
            obtain ⟨el, eq3⟩ := hel2 H el2
            have cp := (World.cell?_of_block (a := ⟨H, 1, none⟩) (eq3.trans eq2)).trans c1p

            obtain ⟨T, E, l, o, nn, dn, a1, a2, a3, a4, a5, a6, a7, a8, a9, a10⟩ := tells_both _ _ _ it rt p.pos
            go_wp2_with fail
            refine (a1 _ _ _ _ _ t.dev).mono ?_
            rintro e v1 ⟨rfl, z1⟩
            have t1 := t.below z1
            obtain ⟨el1, eq1⟩ := el.below z1
            have cp1 := (World.cell?_of_block (a := ⟨H, 1, none⟩) eq1).trans cp
            go_wp2_with fail
            refine (a2 _ _ _ _ t1.ref).mono ?_
            rintro e v2 ⟨rfl, z2⟩
            rw [z2]
            clear z2
            go_wp2_with fail
            refine (a3 _ _ _ _ _ t1.dev).mono ?_
            rintro e v3 ⟨rfl, z3⟩
            rw [z3]
            clear z3
            go_wp2_with fail
            refine (a4 _ _ _ _ t1.ref).mono ?_
            rintro e v4 ⟨rfl, z4⟩
            rw [z4]
            clear z4
            go_wp2_with fail
            refine (a5 _ _ _ _ _ t1.dev).mono ?_
            rintro e v5 ⟨rfl, z5⟩
            rw [z5]
            clear z5
            go_wp2_with fail
            refine (a6 _ _ _ _ t1.ref).mono ?_
            rintro e v6 ⟨rfl, z6⟩
            rw [z6]
            clear z6
            go_wp2_with fail
            refine (a7 _ _ _ _ _ t1.dev).mono ?_
            rintro e v7 ⟨rfl, z7⟩
            rw [z7]
            clear z7
            go_wp2_with fail
            refine (a8 _ _ _ _ t1.ref).mono ?_
            rintro e v8 ⟨rfl, z8⟩
            rw [z8]
            clear z8
            go_wp2_with fail
            refine (a9 _ _ _ _ _ t1.dev).mono ?_
            rintro e v9 ⟨rfl, z9⟩
            rw [z9]
            clear z9
            go_wp2_with fail
            refine (a10 _ _ _ _ t1.ref).mono ?_
            rintro e v10 ⟨rfl, z10⟩
            rw [z10]
            clear z10
            go_wp2_with fail
            go_roundw
            case rel => exact ⟨i + 1, _, _, _, _, by omega, by omega, by go_num, t1, it, rt⟩
            case measure => simp [intOf]; omega

          have g2 : (p.kind == 2) = false := by simpa using k2
          by_cases k3 : p.kind = 3
          · have g3 : (p.kind == 3) = true := by simpa using k3
            clear k0 k2 k3
            have it := (it0.armed p.n hok.n.2).mono (Nat.le_succ i)
            have rt := rt0.arms p.n
            go_wp2_with fail
            refine (arm_any t1.dev p.n _ rfl).mono ?_
            rintro e v1 ⟨rfl, z1, y1⟩
            obtain ⟨hv1, t2, hel⟩ := t1.stepD (.of z1 y1)
            obtain ⟨el2, eq2⟩ := hel H el1
            have c2n := (World.cell?_of_block (a := ⟨H, 2, none⟩) eq2).trans c1n
            go_wp2_with fail
            refine (rarm_any t2.ref p.n).mono ?_
            rintro e v2 ⟨rfl, z2, y2⟩
            obtain ⟨h2, t, hel2⟩ := t2.stepR (.of z2 y2)
            obtain ⟨el, eq3⟩ := hel2 H el2
            have cp := (World.cell?_of_block (a := ⟨H, 1, none⟩) (eq3.trans eq2)).trans c1p

            obtain ⟨T, E, l, o, nn, dn, a1, a2, a3, a4, a5, a6, a7, a8, a9, a10⟩ := tells_both _ _ _ it rt p.pos
            go_wp2_with fail
            refine (a1 _ _ _ _ _ t.dev).mono ?_
            rintro e v1 ⟨rfl, z1⟩
            have t1 := t.below z1
            obtain ⟨el1, eq1⟩ := el.below z1
            have cp1 := (World.cell?_of_block (a := ⟨H, 1, none⟩) eq1).trans cp
            go_wp2_with fail
            refine (a2 _ _ _ _ t1.ref).mono ?_
            rintro e v2 ⟨rfl, z2⟩
            rw [z2]
            clear z2
            go_wp2_with fail
            refine (a3 _ _ _ _ _ t1.dev).mono ?_
            rintro e v3 ⟨rfl, z3⟩
            rw [z3]
            clear z3
            go_wp2_with fail
            refine (a4 _ _ _ _ t1.ref).mono ?_
            rintro e v4 ⟨rfl, z4⟩
            rw [z4]
            clear z4
            go_wp2_with fail
            refine (a5 _ _ _ _ _ t1.dev).mono ?_
            rintro e v5 ⟨rfl, z5⟩
            rw [z5]
            clear z5
            go_wp2_with fail
            refine (a6 _ _ _ _ t1.ref).mono ?_
            rintro e v6 ⟨rfl, z6⟩
            rw [z6]
            clear z6
            go_wp2_with fail
            refine (a7 _ _ _ _ _ t1.dev).mono ?_
            rintro e v7 ⟨rfl, z7⟩
            rw [z7]
            clear z7
            go_wp2_with fail
            refine (a8 _ _ _ _ t1.ref).mono ?_
            rintro e v8 ⟨rfl, z8⟩
            rw [z8]
            clear z8
            go_wp2_with fail
            refine (a9 _ _ _ _ _ t1.dev).mono ?_
            rintro e v9 ⟨rfl, z9⟩
            rw [z9]
            clear z9
            go_wp2_with fail
            refine (a10 _ _ _ _ t1.ref).mono ?_
            rintro e v10 ⟨rfl, z10⟩
            rw [z10]
            clear z10
            go_wp2_with fail
            go_roundw
            case rel => exact ⟨i + 1, _, _, _, _, by omega, by omega, by go_num, t1, it, rt⟩
            case measure => simp [intOf]; omega

          have g3 : (p.kind == 3) = false := by simpa using k3
          by_cases k4 : p.kind = 4
          · have g4 : (p.kind == 4) = true := by simpa using k4
            clear k0 k2 k3 k4
            have it := (it0.crashed p.keep).mono (Nat.le_succ i)
            have rt := rt0.crashed it0 p.keep
            have hh' : ∀ x ∈ Q.held, x.1 < Q.n ∧ x.2.size = 512 := by rw [← rt0.held, ← rt0.n]; exact it0.held
            have hs' : ∀ j, j < Q.n → (Q.safe j).size = 512 := by rw [← rt0.safe, ← rt0.n]; exact it0.safe
            have hlen1 : D.held.length ≤ 1000000 := by have := it0.len; omega
            have hlen2 : Q.held.length ≤ 1000000 := by rw [← rt0.held]; exact hlen1
            have hQ82 : Q.n ≤ 8192 := by rw [← rt0.n]; exact it0.n.2
            have hokl := hok.len
            have hoks := hok.sl
            have hokn := hok.nil
            clear hok
            have hold : ∀ b off, p.ka = some ⟨b, off, none⟩ → p.keep ≠ [] → b < w.heap.size := by
              intro b off e ne
              rcases hoks with e' | ⟨b', off', e', hlt', _⟩
              · exact absurd e' ne
              · rw [e] at e'
                cases e'
                exact hlt'
            go_wp2_with (at_builtin; refine wpList_copy_ints rfl (.tmp 121) (.tmp 123) rfl (wr.alloc (.cells #[.int .i64 p.kind, .int .i64 p.pos, .int .i64 p.n, .int .u8 (p.fill.toNat : Int), .slice p.ka p.keep.length p.kc] 33)) (H + 1) (by simp [hH]) rfl p.ka p.keep p.kc rfl (hoks.kept t1.bel) hokn hokl (by omega) ?_; intro b' c' w8 bl8 hb8 hlt8 hsl8)
            have t2 := t1.below bl8
            obtain ⟨el2, eq2⟩ := el1.below bl8
            have elb : Else w8 g gs hv q h b' := ⟨hlt8, fun f => by have := t1.dev.lt _ f; omega, fun f => by have := t1.ref.lt _ f; omega⟩
            refine (crash_any t2.dev p.keep (some ⟨b', 0, none⟩) c' hsl8 (by intro b off e _; cases e; exact elb.2.1) it0.held it0.safe hlen1).mono ?_
            rintro e v1 ⟨rfl, z1, y1⟩
            obtain ⟨hv1, t3, hel3⟩ := t2.stepD (.nil z1 y1)
            obtain ⟨el3, eq3⟩ := hel3 H el2
            obtain ⟨elb3, eqb3⟩ := hel3 b' elb
            have c3l := (World.cell?_of_block (a := ⟨H, 4, none⟩) (eq3.trans eq2)).trans c1l
            go_wp2_with fail
            refine (rcrash_any t3.ref p.keep p.ka p.kc (hoks.kept t3.bel) ?_ hh' hs' hlen2 t3.bel.size hQ82).mono ?_
            · intro b off e ne f
              have := hold b off e ne
              have := t3.ref.from b f
              omega
            rintro e v2 ⟨rfl, z2⟩
            obtain ⟨h2, t, hel4⟩ := t3.stepR z2
            obtain ⟨el4, eq4⟩ := hel4 H el3
            obtain ⟨elb4, eqb4⟩ := hel4 b' elb3
            have c4l := (World.cell?_of_block (a := ⟨H, 4, none⟩) eq4).trans c3l
            go_wp2_with fail
            refine (ints_any p.keep _ _ _ _ _ (hsl8.same (eqb4.trans eqb3) elb4.1) (hoks.kept t.bel) (by omega)).mono ?_
            rintro e v3 ⟨rfl, z3⟩
            obtain ⟨el, eq5⟩ := el4.below z3
            have cp := (World.cell?_of_block (a := ⟨H, 1, none⟩) (eq5.trans (eq4.trans (eq3.trans eq2)))).trans c1p
            have t := t.below z3

            obtain ⟨T, E, l, o, nn, dn, a1, a2, a3, a4, a5, a6, a7, a8, a9, a10⟩ := tells_both _ _ _ it rt p.pos
            go_wp2_with fail
            refine (a1 _ _ _ _ _ t.dev).mono ?_
            rintro e v1 ⟨rfl, z1⟩
            have t1 := t.below z1
            obtain ⟨el1, eq1⟩ := el.below z1
            have cp1 := (World.cell?_of_block (a := ⟨H, 1, none⟩) eq1).trans cp
            go_wp2_with fail
            refine (a2 _ _ _ _ t1.ref).mono ?_
            rintro e v2 ⟨rfl, z2⟩
            rw [z2]
            clear z2
            go_wp2_with fail
            refine (a3 _ _ _ _ _ t1.dev).mono ?_
            rintro e v3 ⟨rfl, z3⟩
            rw [z3]
            clear z3
            go_wp2_with fail
            refine (a4 _ _ _ _ t1.ref).mono ?_
            rintro e v4 ⟨rfl, z4⟩
            rw [z4]
            clear z4
            go_wp2_with fail
            refine (a5 _ _ _ _ _ t1.dev).mono ?_
            rintro e v5 ⟨rfl, z5⟩
            rw [z5]
            clear z5
            go_wp2_with fail
            refine (a6 _ _ _ _ t1.ref).mono ?_
            rintro e v6 ⟨rfl, z6⟩
            rw [z6]
            clear z6
            go_wp2_with fail
            refine (a7 _ _ _ _ _ t1.dev).mono ?_
            rintro e v7 ⟨rfl, z7⟩
            rw [z7]
            clear z7
            go_wp2_with fail
            refine (a8 _ _ _ _ t1.ref).mono ?_
            rintro e v8 ⟨rfl, z8⟩
            rw [z8]
            clear z8
            go_wp2_with fail
            refine (a9 _ _ _ _ _ t1.dev).mono ?_
            rintro e v9 ⟨rfl, z9⟩
            rw [z9]
            clear z9
            go_wp2_with fail
            refine (a10 _ _ _ _ t1.ref).mono ?_
            rintro e v10 ⟨rfl, z10⟩
            rw [z10]
            clear z10
            go_wp2_with fail
            go_roundw
            case rel => exact ⟨i + 1, _, _, _, _, by omega, by omega, by go_num, t1, it, rt⟩
            case measure => simp [intOf]; omega

          have g4 : (p.kind == 4) = false := by simpa using k4
          by_cases k5 : p.kind = 5
          · have g5 : (p.kind == 5) = true := by simpa using k5
            clear k0 k2 k3 k4 k5
            have it := (it0.refused p.n hok.n.2).mono (Nat.le_succ i)
            have rt := rt0.refuses p.n
            go_wp2_with fail
            refine (refuse_any t1.dev p.n _ rfl).mono ?_
            rintro e v1 ⟨rfl, z1, y1⟩
            obtain ⟨hv1, t2, hel⟩ := t1.stepD (.of z1 y1)
            obtain ⟨el2, eq2⟩ := hel H el1
            have c2n := (World.cell?_of_block (a := ⟨H, 2, none⟩) eq2).trans c1n
            go_wp2_with fail
            refine (rrefuse_any t2.ref p.n _ rfl).mono ?_
            rintro e v2 ⟨rfl, z2, y2⟩
            obtain ⟨h2, t, hel2⟩ := t2.stepR (.of z2 y2)
            obtain ⟨el, eq3⟩ := hel2 H el2
            have cp := (World.cell?_of_block (a := ⟨H, 1, none⟩) (eq3.trans eq2)).trans c1p

            obtain ⟨T, E, l, o, nn, dn, a1, a2, a3, a4, a5, a6, a7, a8, a9, a10⟩ := tells_both _ _ _ it rt p.pos
            go_wp2_with fail
            refine (a1 _ _ _ _ _ t.dev).mono ?_
            rintro e v1 ⟨rfl, z1⟩
            have t1 := t.below z1
            obtain ⟨el1, eq1⟩ := el.below z1
            have cp1 := (World.cell?_of_block (a := ⟨H, 1, none⟩) eq1).trans cp
            go_wp2_with fail
            refine (a2 _ _ _ _ t1.ref).mono ?_
            rintro e v2 ⟨rfl, z2⟩
            rw [z2]
            clear z2
            go_wp2_with fail
            refine (a3 _ _ _ _ _ t1.dev).mono ?_
            rintro e v3 ⟨rfl, z3⟩
            rw [z3]
            clear z3
            go_wp2_with fail
            refine (a4 _ _ _ _ t1.ref).mono ?_
            rintro e v4 ⟨rfl, z4⟩
            rw [z4]
            clear z4
            go_wp2_with fail
            refine (a5 _ _ _ _ _ t1.dev).mono ?_
            rintro e v5 ⟨rfl, z5⟩
            rw [z5]
            clear z5
            go_wp2_with fail
            refine (a6 _ _ _ _ t1.ref).mono ?_
            rintro e v6 ⟨rfl, z6⟩
            rw [z6]
            clear z6
            go_wp2_with fail
            refine (a7 _ _ _ _ _ t1.dev).mono ?_
            rintro e v7 ⟨rfl, z7⟩
            rw [z7]
            clear z7
            go_wp2_with fail
            refine (a8 _ _ _ _ t1.ref).mono ?_
            rintro e v8 ⟨rfl, z8⟩
            rw [z8]
            clear z8
            go_wp2_with fail
            refine (a9 _ _ _ _ _ t1.dev).mono ?_
            rintro e v9 ⟨rfl, z9⟩
            rw [z9]
            clear z9
            go_wp2_with fail
            refine (a10 _ _ _ _ t1.ref).mono ?_
            rintro e v10 ⟨rfl, z10⟩
            rw [z10]
            clear z10
            go_wp2_with fail
            go_roundw
            case rel => exact ⟨i + 1, _, _, _, _, by omega, by omega, by go_num, t1, it, rt⟩
            case measure => simp [intOf]; omega

          have g5 : (p.kind == 5) = false := by simpa using k5
          clear k0 k2 k3 k4 k5
          have it := it0.mono (Nat.le_succ i)
          have rt := rt0
          have t := t1
          have el := el1
          have cp := c1p

          obtain ⟨T, E, l, o, nn, dn, a1, a2, a3, a4, a5, a6, a7, a8, a9, a10⟩ := tells_both _ _ _ it rt p.pos
          go_wp2_with fail
          refine (a1 _ _ _ _ _ t.dev).mono ?_
          rintro e v1 ⟨rfl, z1⟩
          have t1 := t.below z1
          obtain ⟨el1, eq1⟩ := el.below z1
          have cp1 := (World.cell?_of_block (a := ⟨H, 1, none⟩) eq1).trans cp
          go_wp2_with fail
          refine (a2 _ _ _ _ t1.ref).mono ?_
          rintro e v2 ⟨rfl, z2⟩
          rw [z2]
          clear z2
          go_wp2_with fail
          refine (a3 _ _ _ _ _ t1.dev).mono ?_
          rintro e v3 ⟨rfl, z3⟩
          rw [z3]
          clear z3
          go_wp2_with fail
          refine (a4 _ _ _ _ t1.ref).mono ?_
          rintro e v4 ⟨rfl, z4⟩
          rw [z4]
          clear z4
          go_wp2_with fail
          refine (a5 _ _ _ _ _ t1.dev).mono ?_
          rintro e v5 ⟨rfl, z5⟩
          rw [z5]
          clear z5
          go_wp2_with fail
          refine (a6 _ _ _ _ t1.ref).mono ?_
          rintro e v6 ⟨rfl, z6⟩
          rw [z6]
          clear z6
          go_wp2_with fail
          refine (a7 _ _ _ _ _ t1.dev).mono ?_
          rintro e v7 ⟨rfl, z7⟩
          rw [z7]
          clear z7
          go_wp2_with fail
          refine (a8 _ _ _ _ t1.ref).mono ?_
          rintro e v8 ⟨rfl, z8⟩
          rw [z8]
          clear z8
          go_wp2_with fail
          refine (a9 _ _ _ _ _ t1.dev).mono ?_
          rintro e v9 ⟨rfl, z9⟩
          rw [z9]
          clear z9
          go_wp2_with fail
          refine (a10 _ _ _ _ t1.ref).mono ?_
          rintro e v10 ⟨rfl, z10⟩
          rw [z10]
          clear z10
          go_wp2_with fail
          go_roundw
          case rel => exact ⟨i + 1, _, _, _, _, by omega, by omega, by go_num, t1, it, rt⟩
          case measure => simp [intOf]; omega

      · have h2002 : ¬ (i : Int) < 200 := by omega
        have hn := it0.n
        go_wp2_with fail
        go_loopw [16] (fun si wr => ∃ j : Int, -1 ≤ j ∧ j ≤ (Qn : Int) + 1 ∧ si = .int .i64 j ∧ Two w wr g gs hv D q h Q) (fun si _ => ((Qn : Int) + 1 - intOf si).toNat)
        case atStart => exact ⟨-1, by omega, by omega, rfl, t0⟩
        case round =>
          obtain ⟨j, hj0, hj1, rfl, t⟩ := hrel
          have cs := rsectors_any t.ref
          rw [hQn] at cs
          by_cases hlt : j ≤ (Qn : Int)
          · obtain ⟨T, E, a1, a2⟩ := read_both _ _ _ it0 rt0 j
            have d1 : decide (j ≤ (Qn : Int)) = true := by simpa using hlt
            have d2 : IntKind.i64.wrap (j + 1) = j + 1 := by rw [IntKind.wrap_i64]; omega
            clear hQn
            go_wp2_with fail
            refine cs.mono ?_
            rintro e v0 ⟨rfl, z0⟩
            rw [z0]
            clear z0
            go_wp2_with fail
            refine (a1 _ _ _ _ _ t.dev).mono ?_
            rintro e v1 ⟨rfl, z1⟩
            have t1 := t.below z1
            go_wp2_with fail
            refine (a2 _ _ _ _ t1.ref).mono ?_
            rintro e v2 ⟨rfl, z2⟩
            rw [z2]
            clear z2
            go_wp2_with fail
            go_roundw
            case rel => exact ⟨j + 1, by omega, by omega, by go_num, t1⟩
            case measure => simp [intOf]; omega
          · have d1 : decide (j ≤ (Qn : Int)) = false := by simpa using hlt
            clear hQn
            go_wp2_with fail
            refine cs.mono ?_
            rintro e v0 ⟨rfl, z0⟩
            rw [z0]
            clear z0
            go_wp2_with fail
            refine (wakes_any _).mono ?_
            rintro e v1 ⟨rfl, z1⟩
            go_wp2_with fail
            go_ret
            exact ⟨rfl, below2 t.bel z1⟩

    · have hlt2 : ¬ (i : Int) < (L.length : Int) := by omega
      have hn := it0.n
      go_wp2_with fail
      go_loopw [16] (fun si wr => ∃ j : Int, -1 ≤ j ∧ j ≤ (Qn : Int) + 1 ∧ si = .int .i64 j ∧ Two w wr g gs hv D q h Q) (fun si _ => ((Qn : Int) + 1 - intOf si).toNat)
      case atStart => exact ⟨-1, by omega, by omega, rfl, t0⟩
      case round =>
        obtain ⟨j, hj0, hj1, rfl, t⟩ := hrel
        have cs := rsectors_any t.ref
        rw [hQn] at cs
        by_cases hlt : j ≤ (Qn : Int)
        · obtain ⟨T, E, a1, a2⟩ := read_both _ _ _ it0 rt0 j
          have d1 : decide (j ≤ (Qn : Int)) = true := by simpa using hlt
          have d2 : IntKind.i64.wrap (j + 1) = j + 1 := by rw [IntKind.wrap_i64]; omega
          clear hQn
          go_wp2_with fail
          refine cs.mono ?_
          rintro e v0 ⟨rfl, z0⟩
          rw [z0]
          clear z0
          go_wp2_with fail
          refine (a1 _ _ _ _ _ t.dev).mono ?_
          rintro e v1 ⟨rfl, z1⟩
          have t1 := t.below z1
          go_wp2_with fail
          refine (a2 _ _ _ _ t1.ref).mono ?_
          rintro e v2 ⟨rfl, z2⟩
          rw [z2]
          clear z2
          go_wp2_with fail
          go_roundw
          case rel => exact ⟨j + 1, by omega, by omega, by go_num, t1⟩
          case measure => simp [intOf]; omega
        · have d1 : decide (j ≤ (Qn : Int)) = false := by simpa using hlt
          clear hQn
          go_wp2_with fail
          refine cs.mono ?_
          rintro e v0 ⟨rfl, z0⟩
          rw [z0]
          clear z0
          go_wp2_with fail
          refine (wakes_any _).mono ?_
          rintro e v1 ⟨rfl, z1⟩
          go_wp2_with fail
          go_ret
          exact ⟨rfl, below2 t.bel z1⟩

end Go.Proofs.Ythodnhcnaeajnaa

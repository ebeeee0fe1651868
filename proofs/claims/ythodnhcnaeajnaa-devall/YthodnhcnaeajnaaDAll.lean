/- DevAll: the walk. -/
import Derived.Test.YthodnhcnaeajnaaDAllBits
namespace Go.Proofs.Ythodnhcnaeajnaa
open Go.RowKit

set_option maxHeartbeats 40000000 in
set_option maxRecDepth 100000 in
theorem devAll_on (L : List St) (a : Option Addr) (c : Nat) (w : World) (hsl : SlS w a L) (hall : ∀ p ∈ L, p.ok w) :
    Calls Try.prog 7 #[.slice a L.length c] w fun e w' => e = .returned (.bool true) ∧ Below w.heap.size w w' := by
  have cN := fun w => new_any 8 w (by omega) (by omega)
  go_enter Try.func7, Try.ntmps7
  go_wp2_with fail
  refine (cN _).mono ?_
  rintro e w1 ⟨g1, s1, rfl, d1, b1⟩
  go_wp2_with fail
  refine (cN _).mono ?_
  rintro e w2 ⟨g2, s2, rfl, d2, b2⟩
  have x0 := duo_new d1 b1 d2 b2
  have it0 := inv_new 8 (by omega) (by omega)
  have hk0 := b1
  clear cN d1 d2 b1 b2
  go_wp2_with fail
  go_loopw [9, 10] (fun sn si wr => ∃ (i n : Nat) (v1 v2 : Value) (D : DS) (now safe : Nat → UInt8), i ≤ L.length ∧ i ≤ 60 ∧ sn = .int .i64 (n : Int) ∧ si = .int .i64 (i : Int) ∧ Duo w wr g1 s1 v1 g2 s2 v2 D D w2.heap.size (w2.heap.size + 1) now safe ∧ Inv i D ∧ Says D now safe n) (fun _ si _ => 60 - (intOf si).toNat)
  case atStart => exact ⟨0, 0, _, _, _, _, _, Nat.zero_le _, Nat.zero_le _, rfl, rfl, x0, it0, says_new⟩
  case round =>
    clear x0 it0
    obtain ⟨i, n, v1, v2, D, now, safe, hi1, hi2, rfl, rfl, x, it, sy⟩ := hrel
    have hl : D.left ≠ 0 := by have := sy.left; omega
    have hnx : D.next ≠ 1 := by have := sy.next; omega
    have hn60 : n ≤ i := by rw [← sy.len]; exact it.len
    by_cases hlt : i < L.length
    · have hlt2 : (i : Int) < (L.length : Int) := by omega
      by_cases h60 : i < 60
      · have h602 : (i : Int) < 60 := by omega
        have hx : L[i]? = some L[i] := by simp [hlt]
        generalize L[i] = p at hx
        have hok := hall p (List.mem_of_getElem? hx)
        rcases hsl with hsl | ⟨b, off, rfl, hlb, hrd⟩
        · rw [hsl] at hlt; simp at hlt
        obtain ⟨e0, e1, e2, e3, e4⟩ := hrd i p hx
        have s0 := (x.bel.cell (p := ⟨b, _, none⟩) hlb).trans e0
        have s1 := (x.bel.cell (p := ⟨b, _, none⟩) hlb).trans e1
        have s3 := (x.bel.cell (p := ⟨b, _, none⟩) hlb).trans e3
        clear e0 e1 e2 e4 hrd hx hall
        by_cases k2 : p.kind = 2
        · have g2 : (p.kind == 2) = true := by simpa using k2
          clear k2
          have cF := fl_ok _ _ it (by omega) hl
          go_wp2_with fail
          refine (cF _ _ _ _ _ x.d1).mono ?_
          rintro e wC ⟨rfl, zC⟩
          obtain ⟨v1', xC⟩ := x.step1 zC
          go_wp2_with fail
          refine (cF _ _ _ _ _ xC.d2).mono ?_
          rintro e wF ⟨rfl, zF⟩
          obtain ⟨v2', xF⟩ := xC.step2 zF
          have y := xF.copy
          have m0 := xF.aN.cell 0 (by omega)
          have m1 := xF.aN.cell 1 (by omega)
          have m2 := xF.aN.cell 2 (by omega)
          have m3 := xF.aN.cell 3 (by omega)
          have m4 := xF.aN.cell 4 (by omega)
          have m5 := xF.aN.cell 5 (by omega)
          have m6 := xF.aN.cell 6 (by omega)
          have m7 := xF.aN.cell 7 (by omega)
          have q0 := xF.aS.cell 0 (by omega)
          have q1 := xF.aS.cell 1 (by omega)
          have q2 := xF.aS.cell 2 (by omega)
          have q3 := xF.aS.cell 3 (by omega)
          have q4 := xF.aS.cell 4 (by omega)
          have q5 := xF.aS.cell 5 (by omega)
          have q6 := xF.aS.cell 6 (by omega)
          have q7 := xF.aS.cell 7 (by omega)
          have r0 := xF.aS.free 0
          have r1 := xF.aS.free 1
          have r2 := xF.aS.free 2
          have r3 := xF.aS.free 3
          have r4 := xF.aS.free 4
          have r5 := xF.aS.free 5
          have r6 := xF.aS.free 6
          have r7 := xF.aS.free 7
          go_wp2_with fail
          go_roundw
          case rel => exact ⟨i + 1, 0, _, _, _, _, _, by omega, by omega, by go_num, by go_num, y, it.flushed, sy.flushed it⟩
          case measure => simp [intOf]; omega

        · have g2 : (p.kind == 2) = false := by simpa using k2
          clear k2
          have cW := wr_ok _ _ it (by omega) hl hnx
          have fzN := fun j => x.aN.free j
          have cN := fun j hj => x.aN.cell j hj
          go_wp2_with fail
          refine (mod_any p.pos 8 _ hok.p.1 hok.p.2 (by omega) (by omega)).mono ?_
          rintro e wA ⟨j, rfl, hj, eA⟩
          rw [eA]
          clear eA
          have cNj := cN j hj
          have fzj := fzN j
          have hj2 : (j : Int) < 8 := by omega
          have y := x.setNow j p.fill
          have s3y := (y.bel.cell (p := ⟨b, _, none⟩) hlb).trans e3
          have hjn : j < D.n := by rw [sy.n8]; exact hj
          go_wp2_with fail
          refine (block_any _ p.fill rfl _).mono ?_
          rintro e wB ⟨rfl, zB⟩
          have yB := y.below zB
          go_wp2_with fail
          refine (cW j _ hjn (blk_size _) _ _ _ _ _ yB.d1 yB.bel.size).mono ?_
          rintro e wC ⟨rfl, zC⟩
          obtain ⟨v1', yC⟩ := yB.step1 zC
          have s3C := (yC.bel.cell (p := ⟨b, _, none⟩) hlb).trans e3
          go_wp2_with fail
          refine (block_any _ p.fill rfl _).mono ?_
          rintro e wE ⟨rfl, zE⟩
          have yE := yC.below zE
          go_wp2_with fail
          refine (cW j _ hjn (blk_size _) _ _ _ _ _ yE.d2 yE.bel.size).mono ?_
          rintro e wF ⟨rfl, zF⟩
          obtain ⟨v2', yF⟩ := yE.step2 zF
          go_wp2_with fail
          go_roundw
          case rel => exact ⟨i + 1, n + 1, _, _, _, _, _, by omega, by omega, by go_num, by go_num, yF, it.wrote _ _ hjn (blk_size _), sy.wrote _ _⟩
          case measure => simp [intOf]; omega

      · have h602 : ¬ (i : Int) < 60 := by omega
        obtain ⟨w5, rfl⟩ : ∃ w5, w5 = wr := ⟨wr, rfl⟩
        obtain ⟨i0, hi0, hz0, hz1, hz2⟩ := info_parts Try.info3
        have hheld : D.held.length = n := sy.len
        have hh := it.held
        have hs := it.safe
        have hlen : D.held.length ≤ 1000000 := by omega
        clear hk0
        go_wp2_with fail
        go_loopw [12, 13] (fun sk si wr => ∃ (k : Nat) (v : Value), k ≤ n ∧ sk = v ∧ si = .int .i64 (k : Int) ∧ wr.ownsRow w5.heap.size 3 1 v k (intC (List.replicate k 1)) ∧ Below w5.heap.size w5 wr) (fun _ si _ => n - (intOf si).toNat)
        case atStart => exact ⟨0, _, Nat.zero_le _, rfl, rfl, World.ownsRow_nil _ _ _ _, Below.refl _ _⟩
        case round =>
          obtain ⟨k, v, hk, rfl, rfl, hown, hb2⟩ := hrel
          by_cases hkn : k < n
          · have hkn2 : (k : Int) < (n : Int) := by omega
            have hnews : ∀ j u, [Value.int .i64 1][j]? = some u → (wr.alloc (.cells #[.int .i64 1] 3)).cell? ((⟨wr.heap.size, 0, none⟩ : Addr).add j) = some u := by
              intro j u hj
              match j, hj with
              | 0, hj => simp at hj; subst hj; simp [Addr.add]
            go_wp2_with (at_builtin; refine wpList_append_own _ rfl (.tmp 100) (.tmp 101) 31 rfl w5.heap.size 3 i0 (.int .i64 0) 1 8 Try.underlying31 hi0 hz0 hz1 hz2 rfl (by decide) _ k (intC (List.replicate k 1)) rfl (hown.alloc _) ⟨wr.heap.size, 0, none⟩ 1 1 [.int .i64 1] rfl rfl hnews (by intro u hu; simp at hu; subst hu; rfl) (by unfold maxLen; omega) (by omega) (by have := hb2.size; simp; omega) ?_; intro v8 w8 ho8 hg8 _)
            go_roundw
            case rel =>
              refine ⟨k + 1, v8, by omega, rfl, by go_num, ?_, (hb2.alloc hb2.size _).grown hg8 (by have := hb2.size; simp; omega) (fun j hj => (hown.lt j hj).1)⟩
              rw [← ones_push]
              exact ho8
            case measure => simp [intOf]; omega
          · obtain rfl : k = n := by omega
            have x2 := x.below hb2
            obtain ⟨ka, kc, rfl, hsk, hkb⟩ := ones_sl hown
            have cH := held_any x2.d1
            rw [hheld] at cH
            have cK := crash_any x2.d1 (List.replicate k 1) ka kc hsk (fun b off e _ f => by have := hkb b off e; have := x.d1.lt _ f; omega) hh hs hlen
            rw [List.length_replicate] at cK
            go_wp2_with fail
            refine cH.mono ?_
            rintro e u1 ⟨rfl, z1⟩
            rw [z1]
            clear z1
            go_wp2_with fail
            refine cK.mono ?_
            rintro e u2 ⟨rfl, z2, y2⟩
            obtain ⟨v1', x3⟩ := x2.step1 (.nil z2 y2)
            go_wp2_with fail
            refine (crash_any x3.d2 [] none 0 (Or.inl rfl) (by intro b off e; cases e) hh hs hlen).mono ?_
            rintro e u3 ⟨rfl, z3, y3⟩
            obtain ⟨v2', x4⟩ := x3.step2 (.nil z3 y3)
            have rA : ∀ j : Nat, j < 8 → ∀ B w g gs hv, Dev B w g gs hv (D.crashed (List.replicate k 1)) → Calls Try.prog 23 #[.pointer (some ⟨g, 0, none⟩), .int .i64 (j : Int)] w fun e w' => e = .returned (.tuple #[.string (blk (now j)), .int .i64 0]) ∧ Below w.heap.size w w' :=
              fun j hj B w g gs hv d => read_ok d j (by show j < D.n; rw [sy.n8]; exact hj) (by show (-1 : Int) ≠ 0; omega) _ (sy.all it j hj) (blk_size _)
            have rB : ∀ j : Nat, j < 8 → ∀ B w g gs hv, Dev B w g gs hv (D.crashed []) → Calls Try.prog 23 #[.pointer (some ⟨g, 0, none⟩), .int .i64 (j : Int)] w fun e w' => e = .returned (.tuple #[.string (blk (safe j)), .int .i64 0]) ∧ Below w.heap.size w w' :=
              fun j hj B w g gs hv d => read_ok d j (by show j < D.n; rw [sy.n8]; exact hj) (by show (-1 : Int) ≠ 0; omega) _ (sy.none it j hj) (blk_size _)
            clear x x2 x3 z2 y2 z3 y3 hown hb2 hsk hkb cH cK hh hs hsl hall sy it
            go_wp2_with fail
            go_loopw [14] (fun si wr => ∃ j : Nat, j ≤ 8 ∧ si = .int .i64 (j : Int) ∧ Duo w wr g1 s1 v1' g2 s2 v2' (D.crashed (List.replicate k 1)) (D.crashed []) w2.heap.size (w2.heap.size + 1) now safe) (fun si _ => 8 - (intOf si).toNat)
            case atStart => exact ⟨0, by omega, rfl, x4⟩
            case round =>
              obtain ⟨j, hj, rfl, x⟩ := hrel
              by_cases hj8 : j < 8
              · have hj82 : (j : Int) < 8 := by omega
                go_wp2_with fail
                refine (rA j hj8 _ _ _ _ _ x.d1).mono ?_
                rintro e u1 ⟨rfl, z1⟩
                have x1 := x.below z1
                go_wp2_with fail
                refine (rB j hj8 _ _ _ _ _ x1.d2).mono ?_
                rintro e u2 ⟨rfl, z2⟩
                have x2 := x1.below z2
                have cn := x2.aN.cell j hj8
                go_wp2_with fail
                refine (block_any _ (now j) rfl _).mono ?_
                rintro e u3 ⟨rfl, z3⟩
                have x3 := x2.below z3
                have cs := x3.aS.cell j hj8
                go_wp2_with fail
                refine (block_any _ (safe j) rfl _).mono ?_
                rintro e u4 ⟨rfl, z4⟩
                have x4 := x3.below z4
                go_wp2_with fail
                go_roundw
                case rel => exact ⟨j + 1, by omega, by go_num, x4⟩
                case measure => simp [intOf]; omega
              · have hj82 : ¬ (j : Int) < 8 := by omega
                go_wp2_with fail
                refine (wakes_any _).mono ?_
                rintro e u1 ⟨rfl, z1⟩
                go_wp2_with fail
                go_ret
                exact ⟨rfl, below2 x.bel z1⟩

    · have hlt2 : ¬ (i : Int) < (L.length : Int) := by omega
      obtain ⟨w5, rfl⟩ : ∃ w5, w5 = wr := ⟨wr, rfl⟩
      obtain ⟨i0, hi0, hz0, hz1, hz2⟩ := info_parts Try.info3
      have hheld : D.held.length = n := sy.len
      have hh := it.held
      have hs := it.safe
      have hlen : D.held.length ≤ 1000000 := by omega
      clear hk0
      go_wp2_with fail
      go_loopw [12, 13] (fun sk si wr => ∃ (k : Nat) (v : Value), k ≤ n ∧ sk = v ∧ si = .int .i64 (k : Int) ∧ wr.ownsRow w5.heap.size 3 1 v k (intC (List.replicate k 1)) ∧ Below w5.heap.size w5 wr) (fun _ si _ => n - (intOf si).toNat)
      case atStart => exact ⟨0, _, Nat.zero_le _, rfl, rfl, World.ownsRow_nil _ _ _ _, Below.refl _ _⟩
      case round =>
        obtain ⟨k, v, hk, rfl, rfl, hown, hb2⟩ := hrel
        by_cases hkn : k < n
        · have hkn2 : (k : Int) < (n : Int) := by omega
          have hnews : ∀ j u, [Value.int .i64 1][j]? = some u → (wr.alloc (.cells #[.int .i64 1] 3)).cell? ((⟨wr.heap.size, 0, none⟩ : Addr).add j) = some u := by
            intro j u hj
            match j, hj with
            | 0, hj => simp at hj; subst hj; simp [Addr.add]
          go_wp2_with (at_builtin; refine wpList_append_own _ rfl (.tmp 100) (.tmp 101) 31 rfl w5.heap.size 3 i0 (.int .i64 0) 1 8 Try.underlying31 hi0 hz0 hz1 hz2 rfl (by decide) _ k (intC (List.replicate k 1)) rfl (hown.alloc _) ⟨wr.heap.size, 0, none⟩ 1 1 [.int .i64 1] rfl rfl hnews (by intro u hu; simp at hu; subst hu; rfl) (by unfold maxLen; omega) (by omega) (by have := hb2.size; simp; omega) ?_; intro v8 w8 ho8 hg8 _)
          go_roundw
          case rel =>
            refine ⟨k + 1, v8, by omega, rfl, by go_num, ?_, (hb2.alloc hb2.size _).grown hg8 (by have := hb2.size; simp; omega) (fun j hj => (hown.lt j hj).1)⟩
            rw [← ones_push]
            exact ho8
          case measure => simp [intOf]; omega
        · obtain rfl : k = n := by omega
          have x2 := x.below hb2
          obtain ⟨ka, kc, rfl, hsk, hkb⟩ := ones_sl hown
          have cH := held_any x2.d1
          rw [hheld] at cH
          have cK := crash_any x2.d1 (List.replicate k 1) ka kc hsk (fun b off e _ f => by have := hkb b off e; have := x.d1.lt _ f; omega) hh hs hlen
          rw [List.length_replicate] at cK
          go_wp2_with fail
          refine cH.mono ?_
          rintro e u1 ⟨rfl, z1⟩
          rw [z1]
          clear z1
          go_wp2_with fail
          refine cK.mono ?_
          rintro e u2 ⟨rfl, z2, y2⟩
          obtain ⟨v1', x3⟩ := x2.step1 (.nil z2 y2)
          go_wp2_with fail
          refine (crash_any x3.d2 [] none 0 (Or.inl rfl) (by intro b off e; cases e) hh hs hlen).mono ?_
          rintro e u3 ⟨rfl, z3, y3⟩
          obtain ⟨v2', x4⟩ := x3.step2 (.nil z3 y3)
          have rA : ∀ j : Nat, j < 8 → ∀ B w g gs hv, Dev B w g gs hv (D.crashed (List.replicate k 1)) → Calls Try.prog 23 #[.pointer (some ⟨g, 0, none⟩), .int .i64 (j : Int)] w fun e w' => e = .returned (.tuple #[.string (blk (now j)), .int .i64 0]) ∧ Below w.heap.size w w' :=
            fun j hj B w g gs hv d => read_ok d j (by show j < D.n; rw [sy.n8]; exact hj) (by show (-1 : Int) ≠ 0; omega) _ (sy.all it j hj) (blk_size _)
          have rB : ∀ j : Nat, j < 8 → ∀ B w g gs hv, Dev B w g gs hv (D.crashed []) → Calls Try.prog 23 #[.pointer (some ⟨g, 0, none⟩), .int .i64 (j : Int)] w fun e w' => e = .returned (.tuple #[.string (blk (safe j)), .int .i64 0]) ∧ Below w.heap.size w w' :=
            fun j hj B w g gs hv d => read_ok d j (by show j < D.n; rw [sy.n8]; exact hj) (by show (-1 : Int) ≠ 0; omega) _ (sy.none it j hj) (blk_size _)
          clear x x2 x3 z2 y2 z3 y3 hown hb2 hsk hkb cH cK hh hs hsl hall sy it
          go_wp2_with fail
          go_loopw [14] (fun si wr => ∃ j : Nat, j ≤ 8 ∧ si = .int .i64 (j : Int) ∧ Duo w wr g1 s1 v1' g2 s2 v2' (D.crashed (List.replicate k 1)) (D.crashed []) w2.heap.size (w2.heap.size + 1) now safe) (fun si _ => 8 - (intOf si).toNat)
          case atStart => exact ⟨0, by omega, rfl, x4⟩
          case round =>
            obtain ⟨j, hj, rfl, x⟩ := hrel
            by_cases hj8 : j < 8
            · have hj82 : (j : Int) < 8 := by omega
              go_wp2_with fail
              refine (rA j hj8 _ _ _ _ _ x.d1).mono ?_
              rintro e u1 ⟨rfl, z1⟩
              have x1 := x.below z1
              go_wp2_with fail
              refine (rB j hj8 _ _ _ _ _ x1.d2).mono ?_
              rintro e u2 ⟨rfl, z2⟩
              have x2 := x1.below z2
              have cn := x2.aN.cell j hj8
              go_wp2_with fail
              refine (block_any _ (now j) rfl _).mono ?_
              rintro e u3 ⟨rfl, z3⟩
              have x3 := x2.below z3
              have cs := x3.aS.cell j hj8
              go_wp2_with fail
              refine (block_any _ (safe j) rfl _).mono ?_
              rintro e u4 ⟨rfl, z4⟩
              have x4 := x3.below z4
              go_wp2_with fail
              go_roundw
              case rel => exact ⟨j + 1, by omega, by go_num, x4⟩
              case measure => simp [intOf]; omega
            · have hj82 : ¬ (j : Int) < 8 := by omega
              go_wp2_with fail
              refine (wakes_any _).mono ?_
              rintro e u1 ⟨rfl, z1⟩
              go_wp2_with fail
              go_ret
              exact ⟨rfl, below2 x.bel z1⟩

set_option maxRecDepth 100000 in
theorem devAll_walk {H : Type} {enc : TypeId × Value → H} {base : Nat} {d : DataW H} {ps : List MemPlace} (v : Value) (W : World)
    (hv : Value.okWide Try.prog W .any base 22 v) (h : DataW.Trod enc Try.prog W 0 (fun _ => true) true 22 v d ps) :
    Calls Try.prog 7 #[v] W fun e w' => e = .returned (.bool true) ∧ Below W.heap.size W w' := by
  obtain ⟨a, L, c, rfl, hsl, hall, _⟩ := open_steps hv h
  exact devAll_on L a c W hsl hall

end Go.Proofs.Ythodnhcnaeajnaa

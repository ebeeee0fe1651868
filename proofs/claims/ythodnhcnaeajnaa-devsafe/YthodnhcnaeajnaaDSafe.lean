/- DevSafe: the walk. -/
import Derived.Test.YthodnhcnaeajnaaDSafeBits
import Derived.BigQuiet
namespace Go.Proofs.Ythodnhcnaeajnaa
open Go.RowKit

set_option maxHeartbeats 1600000 in
set_option maxRecDepth 100000 in
theorem devSafe_long (v1 v2 : Value) (ka : Option Addr) (n kc : Nat) (w : World) (hn : 1000 < n) :
    Calls Try.prog 4 #[v1, v2, .slice ka n kc] w fun e w' => e = .returned (.bool true) ∧ Below w.heap.size w w' := by
  have cN := new_any 16 w (by omega) (by omega)
  have d1000 : decide ((1000 : Int) < (n : Int)) = true := by simp; omega
  go_enter Try.func4, Try.ntmps4
  go_wp2_with fail
  refine cN.mono ?_
  rintro e w1 ⟨g, gs, rfl, d1, b1⟩
  go_wp2_with fail
  refine (wakes_any _).mono ?_
  rintro e w2 ⟨rfl, b2⟩
  go_wp2_with fail
  go_ret
  exact ⟨rfl, below2 b1 b2⟩

set_option maxHeartbeats 40000000 in
set_option maxRecDepth 100000 in
theorem devSafe_on (L1 L2 : List St) (a1 a2 : Option Addr) (c1 c2 : Nat) (K : List Int) (ka : Option Addr) (kc : Nat) (w : World) (hsl1 : SlS w a1 L1) (hall1 : ∀ p ∈ L1, p.ok w) (hsl2 : SlS w a2 L2) (hall2 : ∀ p ∈ L2, p.ok w)
    (hKs : SlI w ka K) (hKn : ka = none → kc = 0) (hKl : K.length ≤ kc) (hK : K.length ≤ 1000) :
    Calls Try.prog 4 #[.slice a1 L1.length c1, .slice a2 L2.length c2, .slice ka K.length kc] w fun e w' => e = .returned (.bool true) ∧ Below w.heap.size w w' := by
  have cN := new_any 16 w (by omega) (by omega)
  have d1000 : decide ((1000 : Int) < (K.length : Int)) = false := by simp; omega
  go_enter Try.func4, Try.ntmps4
  go_wp2_with fail
  refine cN.mono ?_
  rintro e w1 ⟨g, gs, rfl, d1, b1⟩
  have t1 : One w w1 g gs (.slice none 0 0) (D0 16) := ⟨d1, b1⟩
  have it1 := inv_new 16 (by omega) (by omega)
  clear d1 b1 cN
  go_wp2_with fail
  go_loopw [9] (fun si wr => ∃ (i : Nat) (hv : Value) (D : DS), i ≤ L1.length ∧ i ≤ 60 ∧ si = .int .i64 (i : Int) ∧ One w wr g gs hv D ∧ Inv i D ∧ D.n = 16 ∧ D.left < 0 ∧ D.next ≤ 0) (fun si _ => 60 - (intOf si).toNat)
  case atStart => exact ⟨0, _, _, Nat.zero_le _, Nat.zero_le _, rfl, t1, it1, rfl, of_decide_eq_true rfl, of_decide_eq_true rfl⟩
  case round =>
    clear t1 it1
    obtain ⟨i, hv, D, hi1, hi2, rfl, t, it, hn16, hlf, hnf⟩ := hrel
    have hl : D.left ≠ 0 := by omega
    have hnx : D.next ≠ 1 := by omega
    by_cases hlt : i < L1.length
    · have hlt2 : (i : Int) < (L1.length : Int) := by omega
      by_cases h60 : i < 60
      · have h602 : (i : Int) < 60 := by omega
        have hx : L1[i]? = some L1[i] := by simp [hlt]
        generalize L1[i] = p at hx
        have hok := hall1 p (List.mem_of_getElem? hx)
        rcases hsl1 with hsl1 | ⟨b, off, rfl, hlb, hrd⟩
        · rw [hsl1] at hlt; simp at hlt
        obtain ⟨e0, e1, e2, e3, e4⟩ := hrd i p hx
        have s1 := (t.bel.cell (p := ⟨b, _, none⟩) hlb).trans e1
        have s3 := (t.bel.cell (p := ⟨b, _, none⟩) hlb).trans e3
        clear e0 e2 e4 hrd hx

        have tD := t.drew
        have cW := wr_ok _ _ it (by omega) hl hnx
        go_wp2_with fail
        go_region_held3 (fun W => W.cell? ⟨b, off + i * 5 + 1, none⟩ = some (.int .i64 p.pos) ∧ W.cell? ⟨b, off + i * 5 + 3, none⟩ = some (.int .u8 (p.fill.toNat : Int)))
          (first | exact ⟨(hB.cell (p := ⟨b, _, none⟩) hlb).trans e1, (hB.cell (p := ⟨b, _, none⟩) hlb).trans e3⟩ | exact ⟨s1, s3⟩ | go_keep)
          (first
            | (have _ := zB; go_at_call 11; refine (cW j _ hj8 (blk_size _) _ _ _ _ _ tB.dev tB.bel.size).mono ?_; rintro e wC ⟨rfl, zC⟩; obtain ⟨hv1, tC, _⟩ := tB.step zC; have hB := tC.bel)
            | (have _ := hj; go_at_call 34; refine (block_any _ p.fill rfl _).mono ?_; rintro e wB ⟨rfl, zB⟩; have tB := tD.below zB; have hB := tB.bel)
            | (go_at_call 33; refine (mod_any p.pos 16 _ hok.p.1 hok.p.2 (by omega) (by omega)).mono ?_; rintro e wA ⟨j, rfl, hj, eA⟩; subst eA; have hj8 : j < D.n := by (rw [hn16]; exact hj)))
        all_goals go_wp2_with fail
        all_goals go_roundw
        case rel => exact ⟨i + 1, _, _, by omega, by omega, by go_num, tC, it.wrote _ _ hj8 (blk_size _), hn16, by show D.left - 1 < 0; omega, by show D.next - 1 ≤ 0; omega⟩
        case measure => simp [intOf]; omega

      · have h602 : ¬ (i : Int) < 60 := by omega
        have cF := fl_ok _ _ it (by omega) hl
        go_wp2_with fail
        refine (cF _ _ _ _ _ t.dev).mono ?_
        rintro e w3 ⟨rfl, z3⟩
        obtain ⟨hv3, t3, _⟩ := t.step z3
        have it3 := it.flushed
        have hheld : D.flushed.held = [] := rfl
        have hn163 : D.flushed.n = 16 := hn16
        have hlf3 : D.flushed.left < 0 := by show D.left - 1 < 0; omega
        have hnf3 : D.flushed.next ≤ 0 := hnf
        clear t it hn16 hlf hnf hl hnx cF z3
        generalize D.flushed = D at t3 it3 hheld hn163 hlf3 hnf3
        obtain ⟨hv, rfl⟩ : ∃ hv, hv = hv3 := ⟨hv3, rfl⟩
        have hn16 := hn163
        have hlf := hlf3
        have hnf := hnf3
        have it := it3
        have hl : D.left ≠ 0 := by omega
        have aX := by_new t3 (.string ⟨#[]⟩) 49
        have t := t3.below (below_alloc1 w3 (.cells #[.string ⟨#[]⟩, .string ⟨#[]⟩, .string ⟨#[]⟩, .string ⟨#[]⟩, .string ⟨#[]⟩, .string ⟨#[]⟩, .string ⟨#[]⟩, .string ⟨#[]⟩, .string ⟨#[]⟩, .string ⟨#[]⟩, .string ⟨#[]⟩, .string ⟨#[]⟩, .string ⟨#[]⟩, .string ⟨#[]⟩, .string ⟨#[]⟩, .string ⟨#[]⟩] 49))
        clear t3 it3 hn163 hlf3 hnf3
        obtain ⟨HW, hHW⟩ : ∃ HW, w3.heap.size = HW := ⟨_, rfl⟩
        rw [hHW] at aX

        go_wp2_with fail
        go_loopw [11] (fun si wr => ∃ j : Nat, j ≤ 16 ∧ si = .int .i64 (j : Int) ∧ One w wr g gs hv D ∧ By w wr g gs hv HW (upto D.seen j)) (fun si _ => 16 - (intOf si).toNat)
        case atStart => exact ⟨0, by omega, rfl, t, aX⟩
        case round =>
          clear t aX 
          obtain ⟨j, hj, rfl, t, aX⟩ := hrel
          by_cases hj8 : j < 16
          · have hj82 : (j : Int) < 16 := by omega
            have rA := read_ok t.dev j (by rw [hn16]; exact hj8) (by omega) _ rfl (it.seenSize j (by rw [hn16]; exact hj8))
            go_wp2_with fail
            refine rA.mono ?_
            rintro e v1 ⟨rfl, z1⟩
            have t1 := t.below z1
            have aX := aX.below z1
            have c1 := aX.arr.cell j hj8
            have f1 := aX.arr.free j
            go_wp2_with fail
            go_roundw
            case rel => exact ⟨j + 1, by omega, by go_num, t1.store aX.els aX.lo _ _, (⟨(aX.set j _).els, (aX.set j _).arr.ext (fun i _ => upto_succ _ j i), aX.lo⟩)⟩
            case measure => simp [intOf]; omega
          · have hj82 : ¬ (j : Int) < 16 := by omega
            obtain rfl : j = 16 := by omega
            obtain ⟨w4, rfl⟩ : ∃ w4, w4 = wr := ⟨wr, rfl⟩
            have aT := by_new t (.int .i64 0) 50
            have bl := below_alloc1 w4 (.cells #[.int .i64 0, .int .i64 0, .int .i64 0, .int .i64 0, .int .i64 0, .int .i64 0, .int .i64 0, .int .i64 0, .int .i64 0, .int .i64 0, .int .i64 0, .int .i64 0, .int .i64 0, .int .i64 0, .int .i64 0, .int .i64 0] 50)
            have t := t.below bl
            have neWT : HW ≠ w4.heap.size := fun e => by have := aX.els.1; omega
            have aW := aX.below bl
            clear bl aX
            obtain ⟨HT, hHT⟩ : ∃ HT, w4.heap.size = HT := ⟨_, rfl⟩
            rw [hHT] at aT neWT
            obtain ⟨F, hF⟩ : ∃ F, D.seen = F := ⟨_, rfl⟩
            rw [hF] at aW
            have hsafe : D.safe = F := by rw [← hF, ← it.seen, hheld]; rfl
            have it61 : Inv 61 D := it.mono (by omega)
            have aT0 : By w (w4.alloc (.cells #[.int .i64 0, .int .i64 0, .int .i64 0, .int .i64 0, .int .i64 0, .int .i64 0, .int .i64 0, .int .i64 0, .int .i64 0, .int .i64 0, .int .i64 0, .int .i64 0, .int .i64 0, .int .i64 0, .int .i64 0, .int .i64 0] 50)) g gs hv HT (cntV D.held) := ⟨aT.els, aT.arr.ext (fun j _ => by rw [cntV, hheld]; rfl), aT.lo⟩
            clear aT it hF hheld
            go_wp2_with fail
            go_loopw [13] (fun si wr => ∃ (i : Nat) (hv : Value) (D : DS), i ≤ L2.length ∧ i ≤ 60 ∧ si = .int .i64 (i : Int) ∧ One w wr g gs hv D ∧ Inv (61 + i) D ∧ D.n = 16 ∧ D.left < 0 ∧ D.next ≤ 0 ∧ D.safe = F ∧ By w wr g gs hv HW (upto F 16) ∧ By w wr g gs hv HT (cntV D.held)) (fun si _ => 60 - (intOf si).toNat)
            case atStart => exact ⟨0, hv, D, Nat.zero_le _, Nat.zero_le _, rfl, t, it61, hn16, hlf, hnf, hsafe, aW, aT0⟩
            case round =>
              clear t it61 hn16 hlf hnf hsafe aW aT0 hl
              obtain ⟨i, hv, D, hi1, hi2, rfl, t, it, hn16, hlf, hnf, hsafe, aW, aT⟩ := hrel
              have hl : D.left ≠ 0 := by omega
              have hnx : D.next ≠ 1 := by omega
              by_cases hlt : i < L2.length
              · have hlt2 : (i : Int) < (L2.length : Int) := by omega
                by_cases h60 : i < 60
                · have h602 : (i : Int) < 60 := by omega
                  have hx : L2[i]? = some L2[i] := by simp [hlt]
                  generalize L2[i] = p at hx
                  have hok := hall2 p (List.mem_of_getElem? hx)
                  rcases hsl2 with hsl2 | ⟨b, off, rfl, hlb, hrd⟩
                  · rw [hsl2] at hlt; simp at hlt
                  obtain ⟨e0, e1, e2, e3, e4⟩ := hrd i p hx
                  have s1 := (t.bel.cell (p := ⟨b, _, none⟩) hlb).trans e1
                  have s3 := (t.bel.cell (p := ⟨b, _, none⟩) hlb).trans e3
                  clear e0 e2 e4 hrd hx

                  have cW := wr_ok _ _ it (by omega) hl hnx
                  go_wp2_with fail
                  refine (mod_any p.pos 16 _ hok.p.1 hok.p.2 (by omega) (by omega)).mono ?_
                  rintro e wA ⟨j, rfl, hj, eA⟩
                  rw [eA]
                  clear eA
                  have hj2 : (j : Int) < 16 := by omega
                  have cT := aT.arr.cell j hj
                  rw [cntV] at cT
                  have fT := aT.arr.free j
                  have hcl := cntN_le D.held j D.held.length
                  have hlen5 := it.len
                  have d1 : IntKind.i64.wrap ((cntN D.held j D.held.length : Int) + 1) = (cntN D.held j D.held.length : Int) + 1 := by rw [IntKind.wrap_i64]; omega
                  have t1 := t.store aT.els aT.lo j (.int .i64 ((cntN D.held j D.held.length : Int) + 1))
                  have aT1 := aT.set j (.int .i64 ((cntN D.held j D.held.length : Int) + 1))
                  have aW1 := aW.other j (.int .i64 ((cntN D.held j D.held.length : Int) + 1)) neWT
                  have s3y := (t1.bel.cell (p := ⟨b, _, none⟩) hlb).trans e3
                  have hjn : j < D.n := by rw [hn16]; exact hj
                  go_wp2_with fail
                  refine (block_any _ p.fill rfl _).mono ?_
                  rintro e wB ⟨rfl, zB⟩
                  have t2 := t1.below zB
                  have aT2 := aT1.below zB
                  have aW2 := aW1.below zB
                  go_wp2_with fail
                  refine (cW j _ hjn (blk_size _) _ _ _ _ _ t2.dev t2.bel.size).mono ?_
                  rintro e wC ⟨rfl, zC⟩
                  obtain ⟨hv1, t3, hel⟩ := t2.step zC
                  have aT3 := aT2.step hel
                  have aW3 := aW2.step hel
                  go_wp2_with fail
                  go_roundw
                  case rel => exact ⟨i + 1, _, _, by omega, by omega, by go_num, t3, it.wrote _ _ hjn (blk_size _), hn16, by show D.left - 1 < 0; omega, by show D.next - 1 ≤ 0; omega, hsafe, aW3, ⟨aT3.els, aT3.arr.ext (fun q _ => cntV_push _ j _ q), aT3.lo⟩⟩
                  case measure => simp [intOf]; omega

                · have h602 : ¬ (i : Int) < 60 := by omega
                  obtain ⟨w5, rfl⟩ : ∃ w5, w5 = wr := ⟨wr, rfl⟩
                  have aX := by_new t (.string ⟨#[]⟩) 49
                  have bl := below_alloc1 w5 (.cells #[.string ⟨#[]⟩, .string ⟨#[]⟩, .string ⟨#[]⟩, .string ⟨#[]⟩, .string ⟨#[]⟩, .string ⟨#[]⟩, .string ⟨#[]⟩, .string ⟨#[]⟩, .string ⟨#[]⟩, .string ⟨#[]⟩, .string ⟨#[]⟩, .string ⟨#[]⟩, .string ⟨#[]⟩, .string ⟨#[]⟩, .string ⟨#[]⟩, .string ⟨#[]⟩] 49)
                  have t := t.below bl
                  have neW : HW ≠ w5.heap.size := fun e => by have := aW.els.1; omega
                  have neT : HT ≠ w5.heap.size := fun e => by have := aT.els.1; omega
                  have aW := aW.below bl
                  have aT := aT.below bl
                  clear bl
                  obtain ⟨HO, hHO⟩ : ∃ HO, w5.heap.size = HO := ⟨_, rfl⟩
                  rw [hHO] at aX neW neT

                  go_wp2_with fail
                  go_loopw [16] (fun si wr => ∃ j : Nat, j ≤ 16 ∧ si = .int .i64 (j : Int) ∧ One w wr g gs hv D ∧ By w wr g gs hv HO (upto D.seen j) ∧ By w wr g gs hv HW (upto F 16) ∧ By w wr g gs hv HT (cntV D.held)) (fun si _ => 16 - (intOf si).toNat)
                  case atStart => exact ⟨0, by omega, rfl, t, aX, aW, aT⟩
                  case round =>
                    clear t aX aW aT
                    obtain ⟨j, hj, rfl, t, aX, aW, aT⟩ := hrel
                    by_cases hj8 : j < 16
                    · have hj82 : (j : Int) < 16 := by omega
                      have rA := read_ok t.dev j (by rw [hn16]; exact hj8) (by omega) _ rfl (it.seenSize j (by rw [hn16]; exact hj8))
                      go_wp2_with fail
                      refine rA.mono ?_
                      rintro e v1 ⟨rfl, z1⟩
                      have t1 := t.below z1
                      have aX := aX.below z1
                      have aW := aW.below z1
                      have aT := aT.below z1
                      have c1 := aX.arr.cell j hj8
                      have f1 := aX.arr.free j
                      go_wp2_with fail
                      go_roundw
                      case rel => exact ⟨j + 1, by omega, by go_num, t1.store aX.els aX.lo _ _, (⟨(aX.set j _).els, (aX.set j _).arr.ext (fun i _ => upto_succ _ j i), aX.lo⟩), aW.other _ _ neW, aT.other _ _ neT⟩
                      case measure => simp [intOf]; omega
                    · have hj82 : ¬ (j : Int) < 16 := by omega
                      obtain rfl : j = 16 := by omega
                      obtain ⟨w6, rfl⟩ : ∃ w6, w6 = wr := ⟨wr, rfl⟩
                      have aO := aX
                      clear aX

                      have hh := it.held
                      have hs := it.safe
                      have hlenH : D.held.length ≤ 1000000 := by have := it.len; omega
                      have hpure : ∀ j, j < 16 → ((D.crashed K).seen j).size = 512 ∧ (D.seen j).size = 512 ∧ (F j).size = 512 ∧ ((cntN D.held j D.held.length = 0 ∧ (D.crashed K).seen j = F j) ∨ (cntN D.held j D.held.length = 1 ∧ ∃ m, m ≤ 512 ∧ (D.crashed K).seen j = tear m (D.seen j) (F j)) ∨ 2 ≤ cntN D.held j D.held.length) := by
                        intro j hj
                        have hjn : j < D.n := by rw [hn16]; exact hj
                        have e : (D.crashed K).seen = crN F D.held K D.held.length := by
                          show seN D.seen (crN D.safe D.held K D.held.length) D.held D.held.length = _
                          rw [seN_all _ _ _ _ _ it.seen, hsafe]
                        refine ⟨(it.crashed K).seenSize j hjn, it.seenSize j hjn, by rw [← hsafe]; exact hs j hjn, ?_⟩
                        rw [e, ← it.seen, hsafe]
                        rcases once F D.held K j D.held.length (Nat.le_refl _) with ⟨q1, q2, _⟩ | q | q
                        · exact Or.inl ⟨q1, q2⟩
                        · exact Or.inr (Or.inl q)
                        · exact Or.inr (Or.inr q)
                      clear it
                      go_wp2_with (at_builtin; refine wpList_copy_ints rfl (.tmp 121) (.tmp 122) rfl w6 w6.heap.size rfl rfl ka K kc rfl (hKs.kept t.bel) hKn hKl (by omega) ?_; intro b' c' w8 bl8 hb8 hlt8 hsl8)
                      have t2 := t.below bl8
                      have elb : ¬ foot g gs hv b' := fun f => by have := t.dev.lt _ f; omega
                      have aW2 := aW.below bl8
                      have aT2 := aT.below bl8
                      have aO2 := aO.below bl8
                      refine (crash_any t2.dev K (some ⟨b', 0, none⟩) c' hsl8 (by intro b off e _; cases e; exact elb) hh hs hlenH).mono ?_
                      rintro e v1 ⟨rfl, z1, y1⟩
                      obtain ⟨hv1, t3, hel3⟩ := t2.step (.nil z1 y1)
                      have aW3 := aW2.step hel3
                      have aT3 := aT2.step hel3
                      have aO3 := aO2.step hel3
                      clear t t2 aW aT aO aW2 aT2 aO2 z1 y1 hel3 hsl8 hh hs bl8
                      go_wp2_with fail
                      go_loopw [17] (fun si wr => ∃ j : Nat, j ≤ 16 ∧ si = .int .i64 (j : Int) ∧ One w wr g gs hv1 (D.crashed K) ∧ By w wr g gs hv1 HW (upto F 16) ∧ By w wr g gs hv1 HT (cntV D.held) ∧ By w wr g gs hv1 HO (upto D.seen 16)) (fun si _ => 16 - (intOf si).toNat)
                      case atStart => exact ⟨0, by omega, rfl, t3, aW3, aT3, aO3⟩
                      case round =>
                        clear t3 aW3 aT3 aO3
                        obtain ⟨j, hj, rfl, t, aW, aT, aO⟩ := hrel
                        by_cases hj8 : j < 16
                        · have hj82 : (j : Int) < 16 := by omega
                          obtain ⟨S, hS⟩ : ∃ S, (D.crashed K).seen j = S := ⟨_, rfl⟩
                          obtain ⟨N, hN⟩ : ∃ N, D.seen j = N := ⟨_, rfl⟩
                          obtain ⟨Wj, hWj⟩ : ∃ Wj, F j = Wj := ⟨_, rfl⟩
                          have hcase := hpure j hj8
                          rw [hS, hN, hWj] at hcase
                          obtain ⟨hSz, hNz, hWz, hcase⟩ := hcase
                          have rA := read_ok t.dev j (by show j < D.n; rw [hn16]; exact hj8) (by show (-1 : Int) ≠ 0; omega) S hS hSz
                          have tz1 : ((N.size : Int) == 512) = true := by rw [hNz]; rfl
                          have tz2 : ((S.size : Int) == 512) = true := by rw [hSz]; rfl
                          have tz3 : ((Wj.size : Int) == 512) = true := by rw [hWz]; rfl
                          clear hS
                          generalize hct : cntN D.held j D.held.length = ct at hcase
                          go_wp2_with fail
                          refine rA.mono ?_
                          rintro e v1 ⟨rfl, z1⟩
                          have t1 := t.below z1
                          have aW := aW.below z1
                          have aT := aT.below z1
                          have aO := aO.below z1
                          have c1 := aO.arr.cell j hj8
                          rw [upto, if_pos hj8, hN] at c1
                          have c2 := aW.arr.cell j hj8
                          rw [upto, if_pos hj8, hWj] at c2
                          have c3 := aT.arr.cell j hj8
                          rw [cntV, hct] at c3
                          clear rA
                          rcases hcase with ⟨rfl, rfl⟩ | ⟨rfl, hmm⟩ | h2
                          · go_wp2_with fail
                            go_roundw
                            case rel => exact ⟨j + 1, by omega, by go_num, t1, aW, aT, aO⟩
                            case measure => simp [intOf]; omega
                          · obtain ⟨m, hm5, hT⟩ := hmm
                            have cn := aO.arr.cell j hj8
                            rw [upto, if_pos hj8, hN] at cn
                            have cw := aW.arr.cell j hj8
                            rw [upto, if_pos hj8, hWj] at cw
                            clear hN hWj
                            have HT : Hid (S = tear m N Wj) := hT
                            clear hT
                            go_wp2_with fail
                            obtain ⟨w7, rfl⟩ : ∃ w7, w7 = v1 := ⟨v1, rfl⟩
                            go_loopw [20] (fun sk wr => ∃ k : Nat, k ≤ 512 ∧ sk = .int .i64 (k : Int) ∧ Below w7.heap.size w7 wr) (fun sk _ => 512 - (intOf sk).toNat)
                            case atStart => exact ⟨0, by omega, rfl, Below.refl _ _⟩
                            case round =>
                              obtain ⟨k, hk, rfl, hb⟩ := hrel
                              have hltO : HO < w7.heap.size := World.block_lt_of_cell? _ _ cn
                              have hltW : HW < w7.heap.size := World.block_lt_of_cell? _ _ cw
                              have cn' := (hb.cell (p := ⟨HO, j, none⟩) hltO).trans cn
                              have cw' := (hb.cell (p := ⟨HW, j, none⟩) hltW).trans cw
                              by_cases hk5 : k < 512
                              · have hk1 : decide ((k : Int) < 512) = true := by simp; omega
                                have hk2 : (k : Int) < 512 := by omega
                                go_wp2_with fail
                                go_quiet (fail)
                                go_wp2_with fail
                                case roundEnd => exact ⟨⟨k + 1, by omega, by go_num, Below.drewN hb _⟩, by simp [intOf]; omega⟩
                                rename_i hne _ _
                                have hst := stop_at HT.out hNz hWz hk (differ HT.out hm5 hNz hWz (by omega) (by omega) hne)
                                go_quiet (fail)
                                go_wp2_with fail
                                go_roundw
                                case rel => exact ⟨j + 1, by omega, by go_num, t1.below (Below.drewN hb _), aW.below (Below.drewN hb _), aT.below (Below.drewN hb _), aO.below (Below.drewN hb _)⟩
                                case measure => simp [intOf]; omega
                              · obtain rfl : k = 512 := by omega
                                have hk1 : decide (((512 : Nat) : Int) < 512) = false := by simp
                                have hst := stop_at HT.out hNz hWz hk (by omega)
                                go_wp2_with fail
                                go_quiet (fail)
                                go_wp2_with fail
                                go_quiet (fail)
                                go_wp2_with fail
                                go_roundw
                                case rel => exact ⟨j + 1, by omega, by go_num, t1.below (Below.drewN hb _), aW.below (Below.drewN hb _), aT.below (Below.drewN hb _), aO.below (Below.drewN hb _)⟩
                                case measure => simp [intOf]; omega
                          · have ct0 : ((ct : Int) == 0) = false := by rw [beq_eq_false_iff_ne]; omega
                            have ct1 : ((ct : Int) == 1) = false := by rw [beq_eq_false_iff_ne]; omega
                            go_wp2_with fail
                            go_roundw
                            case rel => exact ⟨j + 1, by omega, by go_num, t1, aW, aT, aO⟩
                            case measure => simp [intOf]; omega
                        · have hj82 : ¬ (j : Int) < 16 := by omega
                          have cHe := held_any t.dev
                          have cDo := down_any t.dev
                          rw [show ((D.crashed K).left == 0) = false from rfl] at cDo
                          rw [show ((D.crashed K).held.length : Int) = 0 from rfl] at cHe
                          go_wp2_with fail
                          refine cHe.mono ?_
                          rintro e u1 ⟨rfl, z1⟩
                          rw [z1]
                          clear z1
                          go_wp2_with fail
                          refine cDo.mono ?_
                          rintro e u2 ⟨rfl, z2⟩
                          rw [z2]
                          clear z2
                          go_wp2_with fail
                          refine (wakes_any _).mono ?_
                          rintro e u3 ⟨rfl, z3⟩
                          go_wp2_with fail
                          go_ret
                          exact ⟨rfl, below2 t.bel z3⟩

              · have hlt2 : ¬ (i : Int) < (L2.length : Int) := by omega
                obtain ⟨w5, rfl⟩ : ∃ w5, w5 = wr := ⟨wr, rfl⟩
                have aX := by_new t (.string ⟨#[]⟩) 49
                have bl := below_alloc1 w5 (.cells #[.string ⟨#[]⟩, .string ⟨#[]⟩, .string ⟨#[]⟩, .string ⟨#[]⟩, .string ⟨#[]⟩, .string ⟨#[]⟩, .string ⟨#[]⟩, .string ⟨#[]⟩, .string ⟨#[]⟩, .string ⟨#[]⟩, .string ⟨#[]⟩, .string ⟨#[]⟩, .string ⟨#[]⟩, .string ⟨#[]⟩, .string ⟨#[]⟩, .string ⟨#[]⟩] 49)
                have t := t.below bl
                have neW : HW ≠ w5.heap.size := fun e => by have := aW.els.1; omega
                have neT : HT ≠ w5.heap.size := fun e => by have := aT.els.1; omega
                have aW := aW.below bl
                have aT := aT.below bl
                clear bl
                obtain ⟨HO, hHO⟩ : ∃ HO, w5.heap.size = HO := ⟨_, rfl⟩
                rw [hHO] at aX neW neT

                go_wp2_with fail
                go_loopw [16] (fun si wr => ∃ j : Nat, j ≤ 16 ∧ si = .int .i64 (j : Int) ∧ One w wr g gs hv D ∧ By w wr g gs hv HO (upto D.seen j) ∧ By w wr g gs hv HW (upto F 16) ∧ By w wr g gs hv HT (cntV D.held)) (fun si _ => 16 - (intOf si).toNat)
                case atStart => exact ⟨0, by omega, rfl, t, aX, aW, aT⟩
                case round =>
                  clear t aX aW aT
                  obtain ⟨j, hj, rfl, t, aX, aW, aT⟩ := hrel
                  by_cases hj8 : j < 16
                  · have hj82 : (j : Int) < 16 := by omega
                    have rA := read_ok t.dev j (by rw [hn16]; exact hj8) (by omega) _ rfl (it.seenSize j (by rw [hn16]; exact hj8))
                    go_wp2_with fail
                    refine rA.mono ?_
                    rintro e v1 ⟨rfl, z1⟩
                    have t1 := t.below z1
                    have aX := aX.below z1
                    have aW := aW.below z1
                    have aT := aT.below z1
                    have c1 := aX.arr.cell j hj8
                    have f1 := aX.arr.free j
                    go_wp2_with fail
                    go_roundw
                    case rel => exact ⟨j + 1, by omega, by go_num, t1.store aX.els aX.lo _ _, (⟨(aX.set j _).els, (aX.set j _).arr.ext (fun i _ => upto_succ _ j i), aX.lo⟩), aW.other _ _ neW, aT.other _ _ neT⟩
                    case measure => simp [intOf]; omega
                  · have hj82 : ¬ (j : Int) < 16 := by omega
                    obtain rfl : j = 16 := by omega
                    obtain ⟨w6, rfl⟩ : ∃ w6, w6 = wr := ⟨wr, rfl⟩
                    have aO := aX
                    clear aX

                    have hh := it.held
                    have hs := it.safe
                    have hlenH : D.held.length ≤ 1000000 := by have := it.len; omega
                    have hpure : ∀ j, j < 16 → ((D.crashed K).seen j).size = 512 ∧ (D.seen j).size = 512 ∧ (F j).size = 512 ∧ ((cntN D.held j D.held.length = 0 ∧ (D.crashed K).seen j = F j) ∨ (cntN D.held j D.held.length = 1 ∧ ∃ m, m ≤ 512 ∧ (D.crashed K).seen j = tear m (D.seen j) (F j)) ∨ 2 ≤ cntN D.held j D.held.length) := by
                      intro j hj
                      have hjn : j < D.n := by rw [hn16]; exact hj
                      have e : (D.crashed K).seen = crN F D.held K D.held.length := by
                        show seN D.seen (crN D.safe D.held K D.held.length) D.held D.held.length = _
                        rw [seN_all _ _ _ _ _ it.seen, hsafe]
                      refine ⟨(it.crashed K).seenSize j hjn, it.seenSize j hjn, by rw [← hsafe]; exact hs j hjn, ?_⟩
                      rw [e, ← it.seen, hsafe]
                      rcases once F D.held K j D.held.length (Nat.le_refl _) with ⟨q1, q2, _⟩ | q | q
                      · exact Or.inl ⟨q1, q2⟩
                      · exact Or.inr (Or.inl q)
                      · exact Or.inr (Or.inr q)
                    clear it
                    go_wp2_with (at_builtin; refine wpList_copy_ints rfl (.tmp 121) (.tmp 122) rfl w6 w6.heap.size rfl rfl ka K kc rfl (hKs.kept t.bel) hKn hKl (by omega) ?_; intro b' c' w8 bl8 hb8 hlt8 hsl8)
                    have t2 := t.below bl8
                    have elb : ¬ foot g gs hv b' := fun f => by have := t.dev.lt _ f; omega
                    have aW2 := aW.below bl8
                    have aT2 := aT.below bl8
                    have aO2 := aO.below bl8
                    refine (crash_any t2.dev K (some ⟨b', 0, none⟩) c' hsl8 (by intro b off e _; cases e; exact elb) hh hs hlenH).mono ?_
                    rintro e v1 ⟨rfl, z1, y1⟩
                    obtain ⟨hv1, t3, hel3⟩ := t2.step (.nil z1 y1)
                    have aW3 := aW2.step hel3
                    have aT3 := aT2.step hel3
                    have aO3 := aO2.step hel3
                    clear t t2 aW aT aO aW2 aT2 aO2 z1 y1 hel3 hsl8 hh hs bl8
                    go_wp2_with fail
                    go_loopw [17] (fun si wr => ∃ j : Nat, j ≤ 16 ∧ si = .int .i64 (j : Int) ∧ One w wr g gs hv1 (D.crashed K) ∧ By w wr g gs hv1 HW (upto F 16) ∧ By w wr g gs hv1 HT (cntV D.held) ∧ By w wr g gs hv1 HO (upto D.seen 16)) (fun si _ => 16 - (intOf si).toNat)
                    case atStart => exact ⟨0, by omega, rfl, t3, aW3, aT3, aO3⟩
                    case round =>
                      clear t3 aW3 aT3 aO3
                      obtain ⟨j, hj, rfl, t, aW, aT, aO⟩ := hrel
                      by_cases hj8 : j < 16
                      · have hj82 : (j : Int) < 16 := by omega
                        obtain ⟨S, hS⟩ : ∃ S, (D.crashed K).seen j = S := ⟨_, rfl⟩
                        obtain ⟨N, hN⟩ : ∃ N, D.seen j = N := ⟨_, rfl⟩
                        obtain ⟨Wj, hWj⟩ : ∃ Wj, F j = Wj := ⟨_, rfl⟩
                        have hcase := hpure j hj8
                        rw [hS, hN, hWj] at hcase
                        obtain ⟨hSz, hNz, hWz, hcase⟩ := hcase
                        have rA := read_ok t.dev j (by show j < D.n; rw [hn16]; exact hj8) (by show (-1 : Int) ≠ 0; omega) S hS hSz
                        have tz1 : ((N.size : Int) == 512) = true := by rw [hNz]; rfl
                        have tz2 : ((S.size : Int) == 512) = true := by rw [hSz]; rfl
                        have tz3 : ((Wj.size : Int) == 512) = true := by rw [hWz]; rfl
                        clear hS
                        generalize hct : cntN D.held j D.held.length = ct at hcase
                        go_wp2_with fail
                        refine rA.mono ?_
                        rintro e v1 ⟨rfl, z1⟩
                        have t1 := t.below z1
                        have aW := aW.below z1
                        have aT := aT.below z1
                        have aO := aO.below z1
                        have c1 := aO.arr.cell j hj8
                        rw [upto, if_pos hj8, hN] at c1
                        have c2 := aW.arr.cell j hj8
                        rw [upto, if_pos hj8, hWj] at c2
                        have c3 := aT.arr.cell j hj8
                        rw [cntV, hct] at c3
                        clear rA
                        rcases hcase with ⟨rfl, rfl⟩ | ⟨rfl, hmm⟩ | h2
                        · go_wp2_with fail
                          go_roundw
                          case rel => exact ⟨j + 1, by omega, by go_num, t1, aW, aT, aO⟩
                          case measure => simp [intOf]; omega
                        · obtain ⟨m, hm5, hT⟩ := hmm
                          have cn := aO.arr.cell j hj8
                          rw [upto, if_pos hj8, hN] at cn
                          have cw := aW.arr.cell j hj8
                          rw [upto, if_pos hj8, hWj] at cw
                          clear hN hWj
                          have HT : Hid (S = tear m N Wj) := hT
                          clear hT
                          go_wp2_with fail
                          obtain ⟨w7, rfl⟩ : ∃ w7, w7 = v1 := ⟨v1, rfl⟩
                          go_loopw [20] (fun sk wr => ∃ k : Nat, k ≤ 512 ∧ sk = .int .i64 (k : Int) ∧ Below w7.heap.size w7 wr) (fun sk _ => 512 - (intOf sk).toNat)
                          case atStart => exact ⟨0, by omega, rfl, Below.refl _ _⟩
                          case round =>
                            obtain ⟨k, hk, rfl, hb⟩ := hrel
                            have hltO : HO < w7.heap.size := World.block_lt_of_cell? _ _ cn
                            have hltW : HW < w7.heap.size := World.block_lt_of_cell? _ _ cw
                            have cn' := (hb.cell (p := ⟨HO, j, none⟩) hltO).trans cn
                            have cw' := (hb.cell (p := ⟨HW, j, none⟩) hltW).trans cw
                            by_cases hk5 : k < 512
                            · have hk1 : decide ((k : Int) < 512) = true := by simp; omega
                              have hk2 : (k : Int) < 512 := by omega
                              go_wp2_with fail
                              go_quiet (fail)
                              go_wp2_with fail
                              case roundEnd => exact ⟨⟨k + 1, by omega, by go_num, Below.drewN hb _⟩, by simp [intOf]; omega⟩
                              rename_i hne _ _
                              have hst := stop_at HT.out hNz hWz hk (differ HT.out hm5 hNz hWz (by omega) (by omega) hne)
                              go_quiet (fail)
                              go_wp2_with fail
                              go_roundw
                              case rel => exact ⟨j + 1, by omega, by go_num, t1.below (Below.drewN hb _), aW.below (Below.drewN hb _), aT.below (Below.drewN hb _), aO.below (Below.drewN hb _)⟩
                              case measure => simp [intOf]; omega
                            · obtain rfl : k = 512 := by omega
                              have hk1 : decide (((512 : Nat) : Int) < 512) = false := by simp
                              have hst := stop_at HT.out hNz hWz hk (by omega)
                              go_wp2_with fail
                              go_quiet (fail)
                              go_wp2_with fail
                              go_quiet (fail)
                              go_wp2_with fail
                              go_roundw
                              case rel => exact ⟨j + 1, by omega, by go_num, t1.below (Below.drewN hb _), aW.below (Below.drewN hb _), aT.below (Below.drewN hb _), aO.below (Below.drewN hb _)⟩
                              case measure => simp [intOf]; omega
                        · have ct0 : ((ct : Int) == 0) = false := by rw [beq_eq_false_iff_ne]; omega
                          have ct1 : ((ct : Int) == 1) = false := by rw [beq_eq_false_iff_ne]; omega
                          go_wp2_with fail
                          go_roundw
                          case rel => exact ⟨j + 1, by omega, by go_num, t1, aW, aT, aO⟩
                          case measure => simp [intOf]; omega
                      · have hj82 : ¬ (j : Int) < 16 := by omega
                        have cHe := held_any t.dev
                        have cDo := down_any t.dev
                        rw [show ((D.crashed K).left == 0) = false from rfl] at cDo
                        rw [show ((D.crashed K).held.length : Int) = 0 from rfl] at cHe
                        go_wp2_with fail
                        refine cHe.mono ?_
                        rintro e u1 ⟨rfl, z1⟩
                        rw [z1]
                        clear z1
                        go_wp2_with fail
                        refine cDo.mono ?_
                        rintro e u2 ⟨rfl, z2⟩
                        rw [z2]
                        clear z2
                        go_wp2_with fail
                        refine (wakes_any _).mono ?_
                        rintro e u3 ⟨rfl, z3⟩
                        go_wp2_with fail
                        go_ret
                        exact ⟨rfl, below2 t.bel z3⟩

    · have hlt2 : ¬ (i : Int) < (L1.length : Int) := by omega
      have cF := fl_ok _ _ it (by omega) hl
      go_wp2_with fail
      refine (cF _ _ _ _ _ t.dev).mono ?_
      rintro e w3 ⟨rfl, z3⟩
      obtain ⟨hv3, t3, _⟩ := t.step z3
      have it3 := it.flushed
      have hheld : D.flushed.held = [] := rfl
      have hn163 : D.flushed.n = 16 := hn16
      have hlf3 : D.flushed.left < 0 := by show D.left - 1 < 0; omega
      have hnf3 : D.flushed.next ≤ 0 := hnf
      clear t it hn16 hlf hnf hl hnx cF z3
      generalize D.flushed = D at t3 it3 hheld hn163 hlf3 hnf3
      obtain ⟨hv, rfl⟩ : ∃ hv, hv = hv3 := ⟨hv3, rfl⟩
      have hn16 := hn163
      have hlf := hlf3
      have hnf := hnf3
      have it := it3
      have hl : D.left ≠ 0 := by omega
      have aX := by_new t3 (.string ⟨#[]⟩) 49
      have t := t3.below (below_alloc1 w3 (.cells #[.string ⟨#[]⟩, .string ⟨#[]⟩, .string ⟨#[]⟩, .string ⟨#[]⟩, .string ⟨#[]⟩, .string ⟨#[]⟩, .string ⟨#[]⟩, .string ⟨#[]⟩, .string ⟨#[]⟩, .string ⟨#[]⟩, .string ⟨#[]⟩, .string ⟨#[]⟩, .string ⟨#[]⟩, .string ⟨#[]⟩, .string ⟨#[]⟩, .string ⟨#[]⟩] 49))
      clear t3 it3 hn163 hlf3 hnf3
      obtain ⟨HW, hHW⟩ : ∃ HW, w3.heap.size = HW := ⟨_, rfl⟩
      rw [hHW] at aX

      go_wp2_with fail
      go_loopw [11] (fun si wr => ∃ j : Nat, j ≤ 16 ∧ si = .int .i64 (j : Int) ∧ One w wr g gs hv D ∧ By w wr g gs hv HW (upto D.seen j)) (fun si _ => 16 - (intOf si).toNat)
      case atStart => exact ⟨0, by omega, rfl, t, aX⟩
      case round =>
        clear t aX 
        obtain ⟨j, hj, rfl, t, aX⟩ := hrel
        by_cases hj8 : j < 16
        · have hj82 : (j : Int) < 16 := by omega
          have rA := read_ok t.dev j (by rw [hn16]; exact hj8) (by omega) _ rfl (it.seenSize j (by rw [hn16]; exact hj8))
          go_wp2_with fail
          refine rA.mono ?_
          rintro e v1 ⟨rfl, z1⟩
          have t1 := t.below z1
          have aX := aX.below z1
          have c1 := aX.arr.cell j hj8
          have f1 := aX.arr.free j
          go_wp2_with fail
          go_roundw
          case rel => exact ⟨j + 1, by omega, by go_num, t1.store aX.els aX.lo _ _, (⟨(aX.set j _).els, (aX.set j _).arr.ext (fun i _ => upto_succ _ j i), aX.lo⟩)⟩
          case measure => simp [intOf]; omega
        · have hj82 : ¬ (j : Int) < 16 := by omega
          obtain rfl : j = 16 := by omega
          obtain ⟨w4, rfl⟩ : ∃ w4, w4 = wr := ⟨wr, rfl⟩
          have aT := by_new t (.int .i64 0) 50
          have bl := below_alloc1 w4 (.cells #[.int .i64 0, .int .i64 0, .int .i64 0, .int .i64 0, .int .i64 0, .int .i64 0, .int .i64 0, .int .i64 0, .int .i64 0, .int .i64 0, .int .i64 0, .int .i64 0, .int .i64 0, .int .i64 0, .int .i64 0, .int .i64 0] 50)
          have t := t.below bl
          have neWT : HW ≠ w4.heap.size := fun e => by have := aX.els.1; omega
          have aW := aX.below bl
          clear bl aX
          obtain ⟨HT, hHT⟩ : ∃ HT, w4.heap.size = HT := ⟨_, rfl⟩
          rw [hHT] at aT neWT
          obtain ⟨F, hF⟩ : ∃ F, D.seen = F := ⟨_, rfl⟩
          rw [hF] at aW
          have hsafe : D.safe = F := by rw [← hF, ← it.seen, hheld]; rfl
          have it61 : Inv 61 D := it.mono (by omega)
          have aT0 : By w (w4.alloc (.cells #[.int .i64 0, .int .i64 0, .int .i64 0, .int .i64 0, .int .i64 0, .int .i64 0, .int .i64 0, .int .i64 0, .int .i64 0, .int .i64 0, .int .i64 0, .int .i64 0, .int .i64 0, .int .i64 0, .int .i64 0, .int .i64 0] 50)) g gs hv HT (cntV D.held) := ⟨aT.els, aT.arr.ext (fun j _ => by rw [cntV, hheld]; rfl), aT.lo⟩
          clear aT it hF hheld
          go_wp2_with fail
          go_loopw [13] (fun si wr => ∃ (i : Nat) (hv : Value) (D : DS), i ≤ L2.length ∧ i ≤ 60 ∧ si = .int .i64 (i : Int) ∧ One w wr g gs hv D ∧ Inv (61 + i) D ∧ D.n = 16 ∧ D.left < 0 ∧ D.next ≤ 0 ∧ D.safe = F ∧ By w wr g gs hv HW (upto F 16) ∧ By w wr g gs hv HT (cntV D.held)) (fun si _ => 60 - (intOf si).toNat)
          case atStart => exact ⟨0, hv, D, Nat.zero_le _, Nat.zero_le _, rfl, t, it61, hn16, hlf, hnf, hsafe, aW, aT0⟩
          case round =>
            clear t it61 hn16 hlf hnf hsafe aW aT0 hl
            obtain ⟨i, hv, D, hi1, hi2, rfl, t, it, hn16, hlf, hnf, hsafe, aW, aT⟩ := hrel
            have hl : D.left ≠ 0 := by omega
            have hnx : D.next ≠ 1 := by omega
            by_cases hlt : i < L2.length
            · have hlt2 : (i : Int) < (L2.length : Int) := by omega
              by_cases h60 : i < 60
              · have h602 : (i : Int) < 60 := by omega
                have hx : L2[i]? = some L2[i] := by simp [hlt]
                generalize L2[i] = p at hx
                have hok := hall2 p (List.mem_of_getElem? hx)
                rcases hsl2 with hsl2 | ⟨b, off, rfl, hlb, hrd⟩
                · rw [hsl2] at hlt; simp at hlt
                obtain ⟨e0, e1, e2, e3, e4⟩ := hrd i p hx
                have s1 := (t.bel.cell (p := ⟨b, _, none⟩) hlb).trans e1
                have s3 := (t.bel.cell (p := ⟨b, _, none⟩) hlb).trans e3
                clear e0 e2 e4 hrd hx

                have cW := wr_ok _ _ it (by omega) hl hnx
                go_wp2_with fail
                refine (mod_any p.pos 16 _ hok.p.1 hok.p.2 (by omega) (by omega)).mono ?_
                rintro e wA ⟨j, rfl, hj, eA⟩
                rw [eA]
                clear eA
                have hj2 : (j : Int) < 16 := by omega
                have cT := aT.arr.cell j hj
                rw [cntV] at cT
                have fT := aT.arr.free j
                have hcl := cntN_le D.held j D.held.length
                have hlen5 := it.len
                have d1 : IntKind.i64.wrap ((cntN D.held j D.held.length : Int) + 1) = (cntN D.held j D.held.length : Int) + 1 := by rw [IntKind.wrap_i64]; omega
                have t1 := t.store aT.els aT.lo j (.int .i64 ((cntN D.held j D.held.length : Int) + 1))
                have aT1 := aT.set j (.int .i64 ((cntN D.held j D.held.length : Int) + 1))
                have aW1 := aW.other j (.int .i64 ((cntN D.held j D.held.length : Int) + 1)) neWT
                have s3y := (t1.bel.cell (p := ⟨b, _, none⟩) hlb).trans e3
                have hjn : j < D.n := by rw [hn16]; exact hj
                go_wp2_with fail
                refine (block_any _ p.fill rfl _).mono ?_
                rintro e wB ⟨rfl, zB⟩
                have t2 := t1.below zB
                have aT2 := aT1.below zB
                have aW2 := aW1.below zB
                go_wp2_with fail
                refine (cW j _ hjn (blk_size _) _ _ _ _ _ t2.dev t2.bel.size).mono ?_
                rintro e wC ⟨rfl, zC⟩
                obtain ⟨hv1, t3, hel⟩ := t2.step zC
                have aT3 := aT2.step hel
                have aW3 := aW2.step hel
                go_wp2_with fail
                go_roundw
                case rel => exact ⟨i + 1, _, _, by omega, by omega, by go_num, t3, it.wrote _ _ hjn (blk_size _), hn16, by show D.left - 1 < 0; omega, by show D.next - 1 ≤ 0; omega, hsafe, aW3, ⟨aT3.els, aT3.arr.ext (fun q _ => cntV_push _ j _ q), aT3.lo⟩⟩
                case measure => simp [intOf]; omega

              · have h602 : ¬ (i : Int) < 60 := by omega
                obtain ⟨w5, rfl⟩ : ∃ w5, w5 = wr := ⟨wr, rfl⟩
                have aX := by_new t (.string ⟨#[]⟩) 49
                have bl := below_alloc1 w5 (.cells #[.string ⟨#[]⟩, .string ⟨#[]⟩, .string ⟨#[]⟩, .string ⟨#[]⟩, .string ⟨#[]⟩, .string ⟨#[]⟩, .string ⟨#[]⟩, .string ⟨#[]⟩, .string ⟨#[]⟩, .string ⟨#[]⟩, .string ⟨#[]⟩, .string ⟨#[]⟩, .string ⟨#[]⟩, .string ⟨#[]⟩, .string ⟨#[]⟩, .string ⟨#[]⟩] 49)
                have t := t.below bl
                have neW : HW ≠ w5.heap.size := fun e => by have := aW.els.1; omega
                have neT : HT ≠ w5.heap.size := fun e => by have := aT.els.1; omega
                have aW := aW.below bl
                have aT := aT.below bl
                clear bl
                obtain ⟨HO, hHO⟩ : ∃ HO, w5.heap.size = HO := ⟨_, rfl⟩
                rw [hHO] at aX neW neT

                go_wp2_with fail
                go_loopw [16] (fun si wr => ∃ j : Nat, j ≤ 16 ∧ si = .int .i64 (j : Int) ∧ One w wr g gs hv D ∧ By w wr g gs hv HO (upto D.seen j) ∧ By w wr g gs hv HW (upto F 16) ∧ By w wr g gs hv HT (cntV D.held)) (fun si _ => 16 - (intOf si).toNat)
                case atStart => exact ⟨0, by omega, rfl, t, aX, aW, aT⟩
                case round =>
                  clear t aX aW aT
                  obtain ⟨j, hj, rfl, t, aX, aW, aT⟩ := hrel
                  by_cases hj8 : j < 16
                  · have hj82 : (j : Int) < 16 := by omega
                    have rA := read_ok t.dev j (by rw [hn16]; exact hj8) (by omega) _ rfl (it.seenSize j (by rw [hn16]; exact hj8))
                    go_wp2_with fail
                    refine rA.mono ?_
                    rintro e v1 ⟨rfl, z1⟩
                    have t1 := t.below z1
                    have aX := aX.below z1
                    have aW := aW.below z1
                    have aT := aT.below z1
                    have c1 := aX.arr.cell j hj8
                    have f1 := aX.arr.free j
                    go_wp2_with fail
                    go_roundw
                    case rel => exact ⟨j + 1, by omega, by go_num, t1.store aX.els aX.lo _ _, (⟨(aX.set j _).els, (aX.set j _).arr.ext (fun i _ => upto_succ _ j i), aX.lo⟩), aW.other _ _ neW, aT.other _ _ neT⟩
                    case measure => simp [intOf]; omega
                  · have hj82 : ¬ (j : Int) < 16 := by omega
                    obtain rfl : j = 16 := by omega
                    obtain ⟨w6, rfl⟩ : ∃ w6, w6 = wr := ⟨wr, rfl⟩
                    have aO := aX
                    clear aX

                    have hh := it.held
                    have hs := it.safe
                    have hlenH : D.held.length ≤ 1000000 := by have := it.len; omega
                    have hpure : ∀ j, j < 16 → ((D.crashed K).seen j).size = 512 ∧ (D.seen j).size = 512 ∧ (F j).size = 512 ∧ ((cntN D.held j D.held.length = 0 ∧ (D.crashed K).seen j = F j) ∨ (cntN D.held j D.held.length = 1 ∧ ∃ m, m ≤ 512 ∧ (D.crashed K).seen j = tear m (D.seen j) (F j)) ∨ 2 ≤ cntN D.held j D.held.length) := by
                      intro j hj
                      have hjn : j < D.n := by rw [hn16]; exact hj
                      have e : (D.crashed K).seen = crN F D.held K D.held.length := by
                        show seN D.seen (crN D.safe D.held K D.held.length) D.held D.held.length = _
                        rw [seN_all _ _ _ _ _ it.seen, hsafe]
                      refine ⟨(it.crashed K).seenSize j hjn, it.seenSize j hjn, by rw [← hsafe]; exact hs j hjn, ?_⟩
                      rw [e, ← it.seen, hsafe]
                      rcases once F D.held K j D.held.length (Nat.le_refl _) with ⟨q1, q2, _⟩ | q | q
                      · exact Or.inl ⟨q1, q2⟩
                      · exact Or.inr (Or.inl q)
                      · exact Or.inr (Or.inr q)
                    clear it
                    go_wp2_with (at_builtin; refine wpList_copy_ints rfl (.tmp 121) (.tmp 122) rfl w6 w6.heap.size rfl rfl ka K kc rfl (hKs.kept t.bel) hKn hKl (by omega) ?_; intro b' c' w8 bl8 hb8 hlt8 hsl8)
                    have t2 := t.below bl8
                    have elb : ¬ foot g gs hv b' := fun f => by have := t.dev.lt _ f; omega
                    have aW2 := aW.below bl8
                    have aT2 := aT.below bl8
                    have aO2 := aO.below bl8
                    refine (crash_any t2.dev K (some ⟨b', 0, none⟩) c' hsl8 (by intro b off e _; cases e; exact elb) hh hs hlenH).mono ?_
                    rintro e v1 ⟨rfl, z1, y1⟩
                    obtain ⟨hv1, t3, hel3⟩ := t2.step (.nil z1 y1)
                    have aW3 := aW2.step hel3
                    have aT3 := aT2.step hel3
                    have aO3 := aO2.step hel3
                    clear t t2 aW aT aO aW2 aT2 aO2 z1 y1 hel3 hsl8 hh hs bl8
                    go_wp2_with fail
                    go_loopw [17] (fun si wr => ∃ j : Nat, j ≤ 16 ∧ si = .int .i64 (j : Int) ∧ One w wr g gs hv1 (D.crashed K) ∧ By w wr g gs hv1 HW (upto F 16) ∧ By w wr g gs hv1 HT (cntV D.held) ∧ By w wr g gs hv1 HO (upto D.seen 16)) (fun si _ => 16 - (intOf si).toNat)
                    case atStart => exact ⟨0, by omega, rfl, t3, aW3, aT3, aO3⟩
                    case round =>
                      clear t3 aW3 aT3 aO3
                      obtain ⟨j, hj, rfl, t, aW, aT, aO⟩ := hrel
                      by_cases hj8 : j < 16
                      · have hj82 : (j : Int) < 16 := by omega
                        obtain ⟨S, hS⟩ : ∃ S, (D.crashed K).seen j = S := ⟨_, rfl⟩
                        obtain ⟨N, hN⟩ : ∃ N, D.seen j = N := ⟨_, rfl⟩
                        obtain ⟨Wj, hWj⟩ : ∃ Wj, F j = Wj := ⟨_, rfl⟩
                        have hcase := hpure j hj8
                        rw [hS, hN, hWj] at hcase
                        obtain ⟨hSz, hNz, hWz, hcase⟩ := hcase
                        have rA := read_ok t.dev j (by show j < D.n; rw [hn16]; exact hj8) (by show (-1 : Int) ≠ 0; omega) S hS hSz
                        have tz1 : ((N.size : Int) == 512) = true := by rw [hNz]; rfl
                        have tz2 : ((S.size : Int) == 512) = true := by rw [hSz]; rfl
                        have tz3 : ((Wj.size : Int) == 512) = true := by rw [hWz]; rfl
                        clear hS
                        generalize hct : cntN D.held j D.held.length = ct at hcase
                        go_wp2_with fail
                        refine rA.mono ?_
                        rintro e v1 ⟨rfl, z1⟩
                        have t1 := t.below z1
                        have aW := aW.below z1
                        have aT := aT.below z1
                        have aO := aO.below z1
                        have c1 := aO.arr.cell j hj8
                        rw [upto, if_pos hj8, hN] at c1
                        have c2 := aW.arr.cell j hj8
                        rw [upto, if_pos hj8, hWj] at c2
                        have c3 := aT.arr.cell j hj8
                        rw [cntV, hct] at c3
                        clear rA
                        rcases hcase with ⟨rfl, rfl⟩ | ⟨rfl, hmm⟩ | h2
                        · go_wp2_with fail
                          go_roundw
                          case rel => exact ⟨j + 1, by omega, by go_num, t1, aW, aT, aO⟩
                          case measure => simp [intOf]; omega
                        · obtain ⟨m, hm5, hT⟩ := hmm
                          have cn := aO.arr.cell j hj8
                          rw [upto, if_pos hj8, hN] at cn
                          have cw := aW.arr.cell j hj8
                          rw [upto, if_pos hj8, hWj] at cw
                          clear hN hWj
                          have HT : Hid (S = tear m N Wj) := hT
                          clear hT
                          go_wp2_with fail
                          obtain ⟨w7, rfl⟩ : ∃ w7, w7 = v1 := ⟨v1, rfl⟩
                          go_loopw [20] (fun sk wr => ∃ k : Nat, k ≤ 512 ∧ sk = .int .i64 (k : Int) ∧ Below w7.heap.size w7 wr) (fun sk _ => 512 - (intOf sk).toNat)
                          case atStart => exact ⟨0, by omega, rfl, Below.refl _ _⟩
                          case round =>
                            obtain ⟨k, hk, rfl, hb⟩ := hrel
                            have hltO : HO < w7.heap.size := World.block_lt_of_cell? _ _ cn
                            have hltW : HW < w7.heap.size := World.block_lt_of_cell? _ _ cw
                            have cn' := (hb.cell (p := ⟨HO, j, none⟩) hltO).trans cn
                            have cw' := (hb.cell (p := ⟨HW, j, none⟩) hltW).trans cw
                            by_cases hk5 : k < 512
                            · have hk1 : decide ((k : Int) < 512) = true := by simp; omega
                              have hk2 : (k : Int) < 512 := by omega
                              go_wp2_with fail
                              go_quiet (fail)
                              go_wp2_with fail
                              case roundEnd => exact ⟨⟨k + 1, by omega, by go_num, Below.drewN hb _⟩, by simp [intOf]; omega⟩
                              rename_i hne _ _
                              have hst := stop_at HT.out hNz hWz hk (differ HT.out hm5 hNz hWz (by omega) (by omega) hne)
                              go_quiet (fail)
                              go_wp2_with fail
                              go_roundw
                              case rel => exact ⟨j + 1, by omega, by go_num, t1.below (Below.drewN hb _), aW.below (Below.drewN hb _), aT.below (Below.drewN hb _), aO.below (Below.drewN hb _)⟩
                              case measure => simp [intOf]; omega
                            · obtain rfl : k = 512 := by omega
                              have hk1 : decide (((512 : Nat) : Int) < 512) = false := by simp
                              have hst := stop_at HT.out hNz hWz hk (by omega)
                              go_wp2_with fail
                              go_quiet (fail)
                              go_wp2_with fail
                              go_quiet (fail)
                              go_wp2_with fail
                              go_roundw
                              case rel => exact ⟨j + 1, by omega, by go_num, t1.below (Below.drewN hb _), aW.below (Below.drewN hb _), aT.below (Below.drewN hb _), aO.below (Below.drewN hb _)⟩
                              case measure => simp [intOf]; omega
                        · have ct0 : ((ct : Int) == 0) = false := by rw [beq_eq_false_iff_ne]; omega
                          have ct1 : ((ct : Int) == 1) = false := by rw [beq_eq_false_iff_ne]; omega
                          go_wp2_with fail
                          go_roundw
                          case rel => exact ⟨j + 1, by omega, by go_num, t1, aW, aT, aO⟩
                          case measure => simp [intOf]; omega
                      · have hj82 : ¬ (j : Int) < 16 := by omega
                        have cHe := held_any t.dev
                        have cDo := down_any t.dev
                        rw [show ((D.crashed K).left == 0) = false from rfl] at cDo
                        rw [show ((D.crashed K).held.length : Int) = 0 from rfl] at cHe
                        go_wp2_with fail
                        refine cHe.mono ?_
                        rintro e u1 ⟨rfl, z1⟩
                        rw [z1]
                        clear z1
                        go_wp2_with fail
                        refine cDo.mono ?_
                        rintro e u2 ⟨rfl, z2⟩
                        rw [z2]
                        clear z2
                        go_wp2_with fail
                        refine (wakes_any _).mono ?_
                        rintro e u3 ⟨rfl, z3⟩
                        go_wp2_with fail
                        go_ret
                        exact ⟨rfl, below2 t.bel z3⟩

            · have hlt2 : ¬ (i : Int) < (L2.length : Int) := by omega
              obtain ⟨w5, rfl⟩ : ∃ w5, w5 = wr := ⟨wr, rfl⟩
              have aX := by_new t (.string ⟨#[]⟩) 49
              have bl := below_alloc1 w5 (.cells #[.string ⟨#[]⟩, .string ⟨#[]⟩, .string ⟨#[]⟩, .string ⟨#[]⟩, .string ⟨#[]⟩, .string ⟨#[]⟩, .string ⟨#[]⟩, .string ⟨#[]⟩, .string ⟨#[]⟩, .string ⟨#[]⟩, .string ⟨#[]⟩, .string ⟨#[]⟩, .string ⟨#[]⟩, .string ⟨#[]⟩, .string ⟨#[]⟩, .string ⟨#[]⟩] 49)
              have t := t.below bl
              have neW : HW ≠ w5.heap.size := fun e => by have := aW.els.1; omega
              have neT : HT ≠ w5.heap.size := fun e => by have := aT.els.1; omega
              have aW := aW.below bl
              have aT := aT.below bl
              clear bl
              obtain ⟨HO, hHO⟩ : ∃ HO, w5.heap.size = HO := ⟨_, rfl⟩
              rw [hHO] at aX neW neT

              go_wp2_with fail
              go_loopw [16] (fun si wr => ∃ j : Nat, j ≤ 16 ∧ si = .int .i64 (j : Int) ∧ One w wr g gs hv D ∧ By w wr g gs hv HO (upto D.seen j) ∧ By w wr g gs hv HW (upto F 16) ∧ By w wr g gs hv HT (cntV D.held)) (fun si _ => 16 - (intOf si).toNat)
              case atStart => exact ⟨0, by omega, rfl, t, aX, aW, aT⟩
              case round =>
                clear t aX aW aT
                obtain ⟨j, hj, rfl, t, aX, aW, aT⟩ := hrel
                by_cases hj8 : j < 16
                · have hj82 : (j : Int) < 16 := by omega
                  have rA := read_ok t.dev j (by rw [hn16]; exact hj8) (by omega) _ rfl (it.seenSize j (by rw [hn16]; exact hj8))
                  go_wp2_with fail
                  refine rA.mono ?_
                  rintro e v1 ⟨rfl, z1⟩
                  have t1 := t.below z1
                  have aX := aX.below z1
                  have aW := aW.below z1
                  have aT := aT.below z1
                  have c1 := aX.arr.cell j hj8
                  have f1 := aX.arr.free j
                  go_wp2_with fail
                  go_roundw
                  case rel => exact ⟨j + 1, by omega, by go_num, t1.store aX.els aX.lo _ _, (⟨(aX.set j _).els, (aX.set j _).arr.ext (fun i _ => upto_succ _ j i), aX.lo⟩), aW.other _ _ neW, aT.other _ _ neT⟩
                  case measure => simp [intOf]; omega
                · have hj82 : ¬ (j : Int) < 16 := by omega
                  obtain rfl : j = 16 := by omega
                  obtain ⟨w6, rfl⟩ : ∃ w6, w6 = wr := ⟨wr, rfl⟩
                  have aO := aX
                  clear aX

                  have hh := it.held
                  have hs := it.safe
                  have hlenH : D.held.length ≤ 1000000 := by have := it.len; omega
                  have hpure : ∀ j, j < 16 → ((D.crashed K).seen j).size = 512 ∧ (D.seen j).size = 512 ∧ (F j).size = 512 ∧ ((cntN D.held j D.held.length = 0 ∧ (D.crashed K).seen j = F j) ∨ (cntN D.held j D.held.length = 1 ∧ ∃ m, m ≤ 512 ∧ (D.crashed K).seen j = tear m (D.seen j) (F j)) ∨ 2 ≤ cntN D.held j D.held.length) := by
                    intro j hj
                    have hjn : j < D.n := by rw [hn16]; exact hj
                    have e : (D.crashed K).seen = crN F D.held K D.held.length := by
                      show seN D.seen (crN D.safe D.held K D.held.length) D.held D.held.length = _
                      rw [seN_all _ _ _ _ _ it.seen, hsafe]
                    refine ⟨(it.crashed K).seenSize j hjn, it.seenSize j hjn, by rw [← hsafe]; exact hs j hjn, ?_⟩
                    rw [e, ← it.seen, hsafe]
                    rcases once F D.held K j D.held.length (Nat.le_refl _) with ⟨q1, q2, _⟩ | q | q
                    · exact Or.inl ⟨q1, q2⟩
                    · exact Or.inr (Or.inl q)
                    · exact Or.inr (Or.inr q)
                  clear it
                  go_wp2_with (at_builtin; refine wpList_copy_ints rfl (.tmp 121) (.tmp 122) rfl w6 w6.heap.size rfl rfl ka K kc rfl (hKs.kept t.bel) hKn hKl (by omega) ?_; intro b' c' w8 bl8 hb8 hlt8 hsl8)
                  have t2 := t.below bl8
                  have elb : ¬ foot g gs hv b' := fun f => by have := t.dev.lt _ f; omega
                  have aW2 := aW.below bl8
                  have aT2 := aT.below bl8
                  have aO2 := aO.below bl8
                  refine (crash_any t2.dev K (some ⟨b', 0, none⟩) c' hsl8 (by intro b off e _; cases e; exact elb) hh hs hlenH).mono ?_
                  rintro e v1 ⟨rfl, z1, y1⟩
                  obtain ⟨hv1, t3, hel3⟩ := t2.step (.nil z1 y1)
                  have aW3 := aW2.step hel3
                  have aT3 := aT2.step hel3
                  have aO3 := aO2.step hel3
                  clear t t2 aW aT aO aW2 aT2 aO2 z1 y1 hel3 hsl8 hh hs bl8
                  go_wp2_with fail
                  go_loopw [17] (fun si wr => ∃ j : Nat, j ≤ 16 ∧ si = .int .i64 (j : Int) ∧ One w wr g gs hv1 (D.crashed K) ∧ By w wr g gs hv1 HW (upto F 16) ∧ By w wr g gs hv1 HT (cntV D.held) ∧ By w wr g gs hv1 HO (upto D.seen 16)) (fun si _ => 16 - (intOf si).toNat)
                  case atStart => exact ⟨0, by omega, rfl, t3, aW3, aT3, aO3⟩
                  case round =>
                    clear t3 aW3 aT3 aO3
                    obtain ⟨j, hj, rfl, t, aW, aT, aO⟩ := hrel
                    by_cases hj8 : j < 16
                    · have hj82 : (j : Int) < 16 := by omega
                      obtain ⟨S, hS⟩ : ∃ S, (D.crashed K).seen j = S := ⟨_, rfl⟩
                      obtain ⟨N, hN⟩ : ∃ N, D.seen j = N := ⟨_, rfl⟩
                      obtain ⟨Wj, hWj⟩ : ∃ Wj, F j = Wj := ⟨_, rfl⟩
                      have hcase := hpure j hj8
                      rw [hS, hN, hWj] at hcase
                      obtain ⟨hSz, hNz, hWz, hcase⟩ := hcase
                      have rA := read_ok t.dev j (by show j < D.n; rw [hn16]; exact hj8) (by show (-1 : Int) ≠ 0; omega) S hS hSz
                      have tz1 : ((N.size : Int) == 512) = true := by rw [hNz]; rfl
                      have tz2 : ((S.size : Int) == 512) = true := by rw [hSz]; rfl
                      have tz3 : ((Wj.size : Int) == 512) = true := by rw [hWz]; rfl
                      clear hS
                      generalize hct : cntN D.held j D.held.length = ct at hcase
                      go_wp2_with fail
                      refine rA.mono ?_
                      rintro e v1 ⟨rfl, z1⟩
                      have t1 := t.below z1
                      have aW := aW.below z1
                      have aT := aT.below z1
                      have aO := aO.below z1
                      have c1 := aO.arr.cell j hj8
                      rw [upto, if_pos hj8, hN] at c1
                      have c2 := aW.arr.cell j hj8
                      rw [upto, if_pos hj8, hWj] at c2
                      have c3 := aT.arr.cell j hj8
                      rw [cntV, hct] at c3
                      clear rA
                      rcases hcase with ⟨rfl, rfl⟩ | ⟨rfl, hmm⟩ | h2
                      · go_wp2_with fail
                        go_roundw
                        case rel => exact ⟨j + 1, by omega, by go_num, t1, aW, aT, aO⟩
                        case measure => simp [intOf]; omega
                      · obtain ⟨m, hm5, hT⟩ := hmm
                        have cn := aO.arr.cell j hj8
                        rw [upto, if_pos hj8, hN] at cn
                        have cw := aW.arr.cell j hj8
                        rw [upto, if_pos hj8, hWj] at cw
                        clear hN hWj
                        have HT : Hid (S = tear m N Wj) := hT
                        clear hT
                        go_wp2_with fail
                        obtain ⟨w7, rfl⟩ : ∃ w7, w7 = v1 := ⟨v1, rfl⟩
                        go_loopw [20] (fun sk wr => ∃ k : Nat, k ≤ 512 ∧ sk = .int .i64 (k : Int) ∧ Below w7.heap.size w7 wr) (fun sk _ => 512 - (intOf sk).toNat)
                        case atStart => exact ⟨0, by omega, rfl, Below.refl _ _⟩
                        case round =>
                          obtain ⟨k, hk, rfl, hb⟩ := hrel
                          have hltO : HO < w7.heap.size := World.block_lt_of_cell? _ _ cn
                          have hltW : HW < w7.heap.size := World.block_lt_of_cell? _ _ cw
                          have cn' := (hb.cell (p := ⟨HO, j, none⟩) hltO).trans cn
                          have cw' := (hb.cell (p := ⟨HW, j, none⟩) hltW).trans cw
                          by_cases hk5 : k < 512
                          · have hk1 : decide ((k : Int) < 512) = true := by simp; omega
                            have hk2 : (k : Int) < 512 := by omega
                            go_wp2_with fail
                            go_quiet (fail)
                            go_wp2_with fail
                            case roundEnd => exact ⟨⟨k + 1, by omega, by go_num, Below.drewN hb _⟩, by simp [intOf]; omega⟩
                            rename_i hne _ _
                            have hst := stop_at HT.out hNz hWz hk (differ HT.out hm5 hNz hWz (by omega) (by omega) hne)
                            go_quiet (fail)
                            go_wp2_with fail
                            go_roundw
                            case rel => exact ⟨j + 1, by omega, by go_num, t1.below (Below.drewN hb _), aW.below (Below.drewN hb _), aT.below (Below.drewN hb _), aO.below (Below.drewN hb _)⟩
                            case measure => simp [intOf]; omega
                          · obtain rfl : k = 512 := by omega
                            have hk1 : decide (((512 : Nat) : Int) < 512) = false := by simp
                            have hst := stop_at HT.out hNz hWz hk (by omega)
                            go_wp2_with fail
                            go_quiet (fail)
                            go_wp2_with fail
                            go_quiet (fail)
                            go_wp2_with fail
                            go_roundw
                            case rel => exact ⟨j + 1, by omega, by go_num, t1.below (Below.drewN hb _), aW.below (Below.drewN hb _), aT.below (Below.drewN hb _), aO.below (Below.drewN hb _)⟩
                            case measure => simp [intOf]; omega
                      · have ct0 : ((ct : Int) == 0) = false := by rw [beq_eq_false_iff_ne]; omega
                        have ct1 : ((ct : Int) == 1) = false := by rw [beq_eq_false_iff_ne]; omega
                        go_wp2_with fail
                        go_roundw
                        case rel => exact ⟨j + 1, by omega, by go_num, t1, aW, aT, aO⟩
                        case measure => simp [intOf]; omega
                    · have hj82 : ¬ (j : Int) < 16 := by omega
                      have cHe := held_any t.dev
                      have cDo := down_any t.dev
                      rw [show ((D.crashed K).left == 0) = false from rfl] at cDo
                      rw [show ((D.crashed K).held.length : Int) = 0 from rfl] at cHe
                      go_wp2_with fail
                      refine cHe.mono ?_
                      rintro e u1 ⟨rfl, z1⟩
                      rw [z1]
                      clear z1
                      go_wp2_with fail
                      refine cDo.mono ?_
                      rintro e u2 ⟨rfl, z2⟩
                      rw [z2]
                      clear z2
                      go_wp2_with fail
                      refine (wakes_any _).mono ?_
                      rintro e u3 ⟨rfl, z3⟩
                      go_wp2_with fail
                      go_ret
                      exact ⟨rfl, below2 t.bel z3⟩

set_option maxRecDepth 100000 in
theorem devSafe_walk {H : Type} {enc : TypeId × Value → H} {base : Nat} {d1 d2 d3 : DataW H} {p1 p2 p3 : List MemPlace} (v1 v2 v3 : Value) (W : World)
    (hv1 : Value.okWide Try.prog W .any base 22 v1) (h1 : DataW.Trod enc Try.prog W 0 (fun _ => true) true 22 v1 d1 p1)
    (hv2 : Value.okWide Try.prog W .any base 22 v2) (h2 : DataW.Trod enc Try.prog W 0 (fun _ => true) true 22 v2 d2 p2)
    (hv3 : Value.okWide Try.prog W .any base 31 v3) (h3 : DataW.Trod enc Try.prog W 0 (fun _ => true) true 31 v3 d3 p3) :
    Calls Try.prog 4 #[v1, v2, v3] W fun e w' => e = .returned (.bool true) ∧ Below W.heap.size W w' := by
  obtain ⟨a1, L1, c1, rfl, hsl1, hall1, _⟩ := open_steps hv1 h1
  obtain ⟨a2, L2, c2, rfl, hsl2, hall2, _⟩ := open_steps hv2 h2
  obtain ⟨ka, K, kc, rfl, hKs, hKn, hKl, _, _⟩ := open_ints hv3 h3
  by_cases hK : 1000 < K.length
  · exact devSafe_long _ _ ka _ kc W hK
  · exact devSafe_on L1 L2 a1 a2 c1 c2 K ka kc W hsl1 hall1 hsl2 hall2 hKs hKn hKl (by omega)

end Go.Proofs.Ythodnhcnaeajnaa

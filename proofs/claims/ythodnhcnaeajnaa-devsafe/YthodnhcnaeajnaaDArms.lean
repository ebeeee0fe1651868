/- DevArms: the walk. -/
import Derived.Test.YthodnhcnaeajnaaDMod
namespace Go.Proofs.Ythodnhcnaeajnaa
open Go.RowKit

theorem wr_down (b : Nat) (D : DS) (hi : Inv b D) (hb : b ≤ 1000) (hl : D.left = 0) : ∀ (i : Nat) (s : ByteArray), i < D.n → s.size = 512 → ∀ B w g gs hv, Dev B w g gs hv D → B ≤ w.heap.size → Calls Try.prog 11 #[.pointer (some ⟨g, 0, none⟩), .int .i64 (i : Int), .string s] w fun e w' => e = .returned (.int .i64 41) ∧ DTo B w g gs hv D w' := by
  intro i s hin hs
  obtain ⟨E, D', _, hc, c⟩ := write_blk b D hi hb i hin s hs
  rcases hc with ⟨_, rfl, rfl⟩ | ⟨q, _⟩ | ⟨q, _⟩
  · exact c
  · exact absurd hl q
  · exact absurd hl q

theorem wr_broken (b : Nat) (D : DS) (hi : Inv b D) (hb : b ≤ 1000) (hl : D.left ≠ 0) (hn : D.next = 1) : ∀ (i : Nat) (s : ByteArray), i < D.n → s.size = 512 → ∀ B w g gs hv, Dev B w g gs hv D → B ≤ w.heap.size → Calls Try.prog 11 #[.pointer (some ⟨g, 0, none⟩), .int .i64 (i : Int), .string s] w fun e w' => e = .returned (.int .i64 42) ∧ DTo B w g gs hv { D with next := 0 } w' := by
  intro i s hin hs
  obtain ⟨E, D', _, hc, c⟩ := write_blk b D hi hb i hin s hs
  rcases hc with ⟨q, _⟩ | ⟨_, _, rfl, rfl⟩ | ⟨_, q, _⟩
  · exact absurd q hl
  · exact c
  · exact absurd hn q

theorem wr_ok (b : Nat) (D : DS) (hi : Inv b D) (hb : b ≤ 1000) (hl : D.left ≠ 0) (hn : D.next ≠ 1) : ∀ (i : Nat) (s : ByteArray), i < D.n → s.size = 512 → ∀ B w g gs hv, Dev B w g gs hv D → B ≤ w.heap.size → Calls Try.prog 11 #[.pointer (some ⟨g, 0, none⟩), .int .i64 (i : Int), .string s] w fun e w' => e = .returned (.int .i64 0) ∧ DTo B w g gs hv (D.wrote i s) w' := by
  intro i s hin hs
  obtain ⟨E, D', _, hc, c⟩ := write_blk b D hi hb i hin s hs
  rcases hc with ⟨q, _⟩ | ⟨_, q, _⟩ | ⟨_, _, rfl, rfl⟩
  · exact absurd q hl
  · exact absurd q hn
  · exact c

theorem fl_down (b : Nat) (D : DS) (hi : Inv b D) (hb : b ≤ 1000) (hl : D.left = 0) : ∀ B w g gs hv, Dev B w g gs hv D → Calls Try.prog 14 #[.pointer (some ⟨g, 0, none⟩)] w fun e w' => e = .returned (.int .i64 41) ∧ DTo B w g gs hv D w' := by
  obtain ⟨E, D', _, hc, c⟩ := flush_one b D hi hb
  rcases hc with ⟨_, rfl, rfl⟩ | ⟨q, _⟩
  · exact c
  · exact absurd hl q

theorem fl_ok (b : Nat) (D : DS) (hi : Inv b D) (hb : b ≤ 1000) (hl : D.left ≠ 0) : ∀ B w g gs hv, Dev B w g gs hv D → Calls Try.prog 14 #[.pointer (some ⟨g, 0, none⟩)] w fun e w' => e = .returned (.int .i64 0) ∧ DTo B w g gs hv D.flushed w' := by
  obtain ⟨E, D', _, hc, c⟩ := flush_one b D hi hb
  rcases hc with ⟨q, _⟩ | ⟨_, rfl, rfl⟩
  · exact absurd q hl
  · exact c

set_option maxHeartbeats 40000000 in
set_option maxRecDepth 100000 in
theorem devArms_on (n rf : Int) (L : List St) (a : Option Addr) (c : Nat) (w : World) (hn : -9223372036854775808 ≤ n ∧ n ≤ 9223372036854775807) (hr : -9223372036854775808 ≤ rf ∧ rf ≤ 9223372036854775807) (hsl : SlS w a L) (hall : ∀ p ∈ L, p.ok w) :
    Calls Try.prog 5 #[.int .i64 n, .int .i64 rf, .slice a L.length c] w fun e w' => e = .returned (.bool true) ∧ Below w.heap.size w w' := by
  have cN := new_any 8 w (by omega) (by omega)
  go_enter Try.func5, Try.ntmps5
  go_wp2_with fail
  refine cN.mono ?_
  rintro e w1 ⟨g, gs, rfl, d1, b1⟩
  have t1 : One w w1 g gs (.slice none 0 0) (D0 8) := ⟨d1, b1⟩
  clear d1 b1 cN
  go_wp2_with fail
  refine (mod_any n 20 _ hn.1 hn.2 (by omega) (by omega)).mono ?_
  rintro e w2 ⟨k, rfl, hk, e2⟩
  rw [e2]
  clear e2
  go_wp2_with fail
  refine (mod_any rf 12 _ hr.1 hr.2 (by omega) (by omega)).mono ?_
  rintro e w3 ⟨r, rfl, hr12, e3⟩
  rw [e3]
  clear e3
  go_wp2_with fail
  refine (arm_any t1.dev (k : Int) _ rfl).mono ?_
  rintro e w4 ⟨rfl, z4, y4⟩
  obtain ⟨hv4, t4, _⟩ := t1.step (.of z4 y4)
  go_wp2_with fail
  refine (refuse_any t4.dev (r : Int) _ rfl).mono ?_
  rintro e w5 ⟨rfl, z5, y5⟩
  obtain ⟨hv5, t5, _⟩ := t4.step (.of z5 y5)
  have it5 := ((inv_new 8 (by omega) (by omega)).armed (k : Int) (by omega)).refused (r : Int) (by omega)
  clear z4 y4 z5 y5 t4 t1
  have c0 := hn
  have hk2 := hr
  go_wp2_with fail
  go_loopw [11, 12, 13] (fun s1 s2 s3 wr => ∃ (i ok wrt : Nat) (hv : Value) (D : DS), i ≤ L.length ∧ i ≤ 60 ∧ s1 = .int .i64 (ok : Int) ∧ s2 = .int .i64 (wrt : Int) ∧ s3 = .int .i64 (i : Int) ∧ One w wr g gs hv D ∧ Inv i D ∧ D.n = 8 ∧ D.left = (k : Int) - (ok : Int) ∧ ok ≤ k ∧ D.next = (r : Int) - (wrt : Int) ∧ D.ops = (ok : Int) ∧ ok ≤ i ∧ wrt ≤ i) (fun _ _ s3 _ => 60 - (intOf s3).toNat)
  case atStart => exact ⟨0, 0, 0, _, _, Nat.zero_le _, Nat.zero_le _, rfl, rfl, rfl, t5, it5, rfl, by show max (k : Int) (-1) = (k : Int) - 0; omega, Nat.zero_le _, by show max (r : Int) 0 = (r : Int) - 0; omega, rfl, Nat.le_refl _, Nat.le_refl _⟩
  case round =>
    clear t5 it5
    obtain ⟨i, ok, wrt, hv, D, hi1, hi2, rfl, rfl, rfl, t, it, hn8, f1, f2, f3, f4, f5, f6⟩ := hrel
    by_cases hlt : i < L.length
    · have hlt2 : (i : Int) < (L.length : Int) := by omega
      by_cases h60 : i < 60
      · have h602 : (i : Int) < 60 := by omega
        have hx : L[i]? = some L[i] := by simp [hlt]
        generalize L[i] = p at hx
        have hok := hall p (List.mem_of_getElem? hx)
        rcases hsl with hsl | ⟨b, off, rfl, hlb, hrd⟩
        · rw [hsl] at hlt; simp at hlt
        obtain ⟨e0, e1, e2, e3, e4⟩ := hrd i p hx
        have s0 := (t.bel.cell (p := ⟨b, _, none⟩) hlb).trans e0
        have s1 := (t.bel.cell (p := ⟨b, _, none⟩) hlb).trans e1
        have s3 := (t.bel.cell (p := ⟨b, _, none⟩) hlb).trans e3
        have tD := t.drew
        clear e0 e2 e4 hrd hx hall
        by_cases ev : p.kind.tmod 2 = 0
        · have ev1 : (p.kind.tmod 2 == 0) = true := by simpa using ev
          clear ev
          by_cases hl : D.left = 0
          · have hokk : ok = k := by omega
            have ok1 : decide ((ok : Int) < (k : Int)) = false := by simp; omega
            have ok2 : decide ((k : Int) ≤ (ok : Int)) = true := by simp; omega
            have cW := wr_down _ _ it (by omega) hl
            clear c0 hk2

            go_wp2_with fail
            go_region_held3 (fun W => W.cell? ⟨b, off + i * 5 + 1, none⟩ = some (.int .i64 p.pos) ∧ W.cell? ⟨b, off + i * 5 + 3, none⟩ = some (.int .u8 (p.fill.toNat : Int)))
              (first | exact ⟨(hB.cell (p := ⟨b, _, none⟩) hlb).trans e1, (hB.cell (p := ⟨b, _, none⟩) hlb).trans e3⟩ | exact ⟨s1, s3⟩ | go_keep)
              (first
                | (have _ := zB; go_at_call 11; refine (cW j _ hj8 (blk_size _) _ _ _ _ _ tB.dev tB.bel.size).mono ?_; rintro e wC ⟨rfl, zC⟩; obtain ⟨hv1, tC, _⟩ := tB.step zC; have hB := tC.bel)
                | (have _ := hj; go_at_call 34; refine (block_any _ p.fill rfl _).mono ?_; rintro e wB ⟨rfl, zB⟩; have tB := tD.below zB; have hB := tB.bel)
                | (go_at_call 33; refine (mod_any p.pos 8 _ hok.p.1 hok.p.2 (by omega) (by omega)).mono ?_; rintro e wA ⟨j, rfl, hj, eA⟩; subst eA; have hj8 : j < D.n := by (rw [hn8]; exact hj)))
            all_goals go_wp2_with fail
            all_goals go_roundw
            case rel => exact ⟨i + 1, ok, wrt, _, _, by omega, by omega, by go_num, by go_num, by go_num, tC, it.mono (Nat.le_succ i), hn8, f1, f2, f3, f4, by omega, by omega⟩
            case measure => simp [intOf]; omega

          · have hokk : ok < k := by omega
            by_cases hnx : D.next = 1
            · have ok1 : decide ((ok : Int) < (k : Int)) = true := by simp; omega
              have ok2 : decide ((k : Int) ≤ (ok : Int)) = false := by simp; omega
              have wq : ((wrt : Int) + 1 == (r : Int)) = true := by rw [beq_iff_eq]; omega
              have cW := wr_broken _ _ it (by omega) hl hnx
              clear c0 hk2

              go_wp2_with fail
              go_region_held3 (fun W => W.cell? ⟨b, off + i * 5 + 1, none⟩ = some (.int .i64 p.pos) ∧ W.cell? ⟨b, off + i * 5 + 3, none⟩ = some (.int .u8 (p.fill.toNat : Int)))
                (first | exact ⟨(hB.cell (p := ⟨b, _, none⟩) hlb).trans e1, (hB.cell (p := ⟨b, _, none⟩) hlb).trans e3⟩ | exact ⟨s1, s3⟩ | go_keep)
                (first
                  | (have _ := zB; go_at_call 11; refine (cW j _ hj8 (blk_size _) _ _ _ _ _ tB.dev tB.bel.size).mono ?_; rintro e wC ⟨rfl, zC⟩; obtain ⟨hv1, tC, _⟩ := tB.step zC; have hB := tC.bel)
                  | (have _ := hj; go_at_call 34; refine (block_any _ p.fill rfl _).mono ?_; rintro e wB ⟨rfl, zB⟩; have tB := tD.below zB; have hB := tB.bel)
                  | (go_at_call 33; refine (mod_any p.pos 8 _ hok.p.1 hok.p.2 (by omega) (by omega)).mono ?_; rintro e wA ⟨j, rfl, hj, eA⟩; subst eA; have hj8 : j < D.n := by (rw [hn8]; exact hj)))
              all_goals go_wp2_with fail
              all_goals go_roundw
              case rel => exact ⟨i + 1, ok, wrt + 1, _, _, by omega, by omega, by go_num, by go_num, by go_num, tC, it.broken.mono (Nat.le_succ i), hn8, f1, f2, by show (0 : Int) = (r : Int) - ((wrt + 1 : Nat) : Int); omega, f4, by omega, by omega⟩
              case measure => simp [intOf]; omega

            · have ok1 : decide ((ok : Int) < (k : Int)) = true := by simp; omega
              have ok2 : decide ((k : Int) ≤ (ok : Int)) = false := by simp; omega
              have wq : ((wrt : Int) + 1 == (r : Int)) = false := by rw [beq_eq_false_iff_ne]; omega
              have cW := wr_ok _ _ it (by omega) hl hnx
              clear c0 hk2

              go_wp2_with fail
              go_region_held3 (fun W => W.cell? ⟨b, off + i * 5 + 1, none⟩ = some (.int .i64 p.pos) ∧ W.cell? ⟨b, off + i * 5 + 3, none⟩ = some (.int .u8 (p.fill.toNat : Int)))
                (first | exact ⟨(hB.cell (p := ⟨b, _, none⟩) hlb).trans e1, (hB.cell (p := ⟨b, _, none⟩) hlb).trans e3⟩ | exact ⟨s1, s3⟩ | go_keep)
                (first
                  | (have _ := zB; go_at_call 11; refine (cW j _ hj8 (blk_size _) _ _ _ _ _ tB.dev tB.bel.size).mono ?_; rintro e wC ⟨rfl, zC⟩; obtain ⟨hv1, tC, _⟩ := tB.step zC; have hB := tC.bel)
                  | (have _ := hj; go_at_call 34; refine (block_any _ p.fill rfl _).mono ?_; rintro e wB ⟨rfl, zB⟩; have tB := tD.below zB; have hB := tB.bel)
                  | (go_at_call 33; refine (mod_any p.pos 8 _ hok.p.1 hok.p.2 (by omega) (by omega)).mono ?_; rintro e wA ⟨j, rfl, hj, eA⟩; subst eA; have hj8 : j < D.n := by (rw [hn8]; exact hj)))
              all_goals go_wp2_with fail
              all_goals go_roundw
              case rel => exact ⟨i + 1, ok + 1, wrt + 1, _, _, by omega, by omega, by go_num, by go_num, by go_num, tC, it.wrote _ _ hj8 (blk_size _), hn8, by show D.left - 1 = (k : Int) - ((ok + 1 : Nat) : Int); omega, by omega, by show D.next - 1 = (r : Int) - ((wrt + 1 : Nat) : Int); omega, by show D.ops + 1 = ((ok + 1 : Nat) : Int); omega, by omega, by omega⟩
              case measure => simp [intOf]; omega

        · have ev1 : (p.kind.tmod 2 == 0) = false := by simpa using ev
          clear ev
          by_cases hl : D.left = 0
          · have hokk : ok = k := by omega
            have ok1 : decide ((ok : Int) < (k : Int)) = false := by simp; omega
            have ok2 : decide ((k : Int) ≤ (ok : Int)) = true := by simp; omega
            have cF := fl_down _ _ it (by omega) hl

            clear c0 hk2
            go_wp2_with fail
            refine (cF _ _ _ _ _ t.dev).mono ?_
            rintro e wC ⟨rfl, zC⟩
            obtain ⟨hv1, tC, _⟩ := t.step zC
            go_wp2_with fail
            go_roundw
            case rel => exact ⟨i + 1, ok, wrt, _, _, by omega, by omega, by go_num, by go_num, by go_num, tC, it.mono (Nat.le_succ i), hn8, f1, f2, f3, f4, by omega, by omega⟩
            case measure => simp [intOf]; omega

          · have hokk : ok < k := by omega
            have ok1 : decide ((ok : Int) < (k : Int)) = true := by simp; omega
            have ok2 : decide ((k : Int) ≤ (ok : Int)) = false := by simp; omega
            have cF := fl_ok _ _ it (by omega) hl

            clear c0 hk2
            go_wp2_with fail
            refine (cF _ _ _ _ _ t.dev).mono ?_
            rintro e wC ⟨rfl, zC⟩
            obtain ⟨hv1, tC, _⟩ := t.step zC
            go_wp2_with fail
            go_roundw
            case rel => exact ⟨i + 1, ok + 1, wrt, _, _, by omega, by omega, by go_num, by go_num, by go_num, tC, it.flushed, hn8, by show D.left - 1 = (k : Int) - ((ok + 1 : Nat) : Int); omega, by omega, f3, by show D.ops + 1 = ((ok + 1 : Nat) : Int); omega, by omega, by omega⟩
            case measure => simp [intOf]; omega

      · have h602 : ¬ (i : Int) < 60 := by omega
        by_cases hl : D.left = 0
        · have hok : ok = k := by omega
          clear hok
          obtain ⟨T, E, hc, cRd⟩ := read_one _ _ it 0
          have hE : E = 41 := by
            rcases hc with ⟨hx, _⟩ | ⟨j, hj, hjn, hc⟩
            · exact absurd ⟨by omega, by omega⟩ hx
            · rcases hc with ⟨q, _, e⟩ | ⟨q, _, e⟩
              · exact e
              · exact absurd hl q
          subst hE

          have ok1 : decide ((ok : Int) < (k : Int)) = false := by simp; omega
          have ok2 : decide ((k : Int) ≤ (ok : Int)) = true := by simp; omega
          have cDn := fun B w g gs hv (d : Dev B w g gs hv D) => down_any d
          rw [show (D.left == 0) = true by rw [hl]; rfl] at cDn
          have cOp := fun B w g gs hv (d : Dev B w g gs hv D) => ops_any d
          rw [f4] at cOp
          have hnull : SlI w none [] := Or.inl rfl
          obtain ⟨E2, D2, i2, hc2, cW2⟩ := write_blk _ _ (it.crashed []) (by omega) 0 (by show 0 < D.n; omega) (blk 1) (blk_size 1)
          have hE2 : E2 = 0 := by
            rcases hc2 with ⟨q, _⟩ | ⟨_, q, _⟩ | ⟨_, _, e, _⟩
            · exact absurd (show (-1 : Int) = 0 from q) (by omega)
            · exact absurd (show (0 : Int) = 1 from q) (by omega)
            · exact e
          subst hE2
          have hh := it.held
          have hs := it.safe
          have hlen : D.held.length ≤ 1000000 := by have := it.len; omega
          clear hc hc2 c0 hk2
          go_wp2_with fail
          refine (cRd _ _ _ _ _ t.dev).mono ?_
          rintro e v1 ⟨rfl, z1⟩
          have t1 := t.below z1
          go_wp2_with fail
          refine (cDn _ _ _ _ _ t1.dev).mono ?_
          rintro e v2 ⟨rfl, z2⟩
          rw [z2]
          clear z2
          go_wp2_with fail
          refine (cDn _ _ _ _ _ t1.dev).mono ?_
          rintro e v3 ⟨rfl, z3⟩
          rw [z3]
          clear z3
          go_wp2_with fail
          refine (cOp _ _ _ _ _ t1.dev).mono ?_
          rintro e v4 ⟨rfl, z4⟩
          rw [z4]
          clear z4
          go_wp2_with fail
          refine (crash_any t1.dev [] none 0 (Or.inl rfl) (by intro b off e; cases e) hh hs hlen).mono ?_
          rintro e v5 ⟨rfl, z5, y5⟩
          obtain ⟨hv5, t5, _⟩ := t1.step (.nil z5 y5)
          have cD5 := down_any t5.dev
          rw [show ((D.crashed []).left == 0) = false from rfl] at cD5
          go_wp2_with fail
          refine cD5.mono ?_
          rintro e v6 ⟨rfl, z6⟩
          rw [z6]
          clear z6
          go_wp2_with fail
          refine (block_any 1 1 rfl _).mono ?_
          rintro e v7 ⟨rfl, z7⟩
          have t7 := t5.below z7
          go_wp2_with fail
          refine (cW2 _ _ _ _ _ t7.dev t7.bel.size).mono ?_
          rintro e v8 ⟨rfl, z8⟩
          obtain ⟨hv8, t8, _⟩ := t7.step z8
          go_wp2_with fail
          refine (wakes_any _).mono ?_
          rintro e v9 ⟨rfl, z9⟩
          go_wp2_with fail
          go_ret
          exact ⟨rfl, below2 t8.bel z9⟩

        · have hokk : ok < k := by omega
          obtain ⟨T, E, hc, cRd⟩ := read_one _ _ it 0
          have hE : E = 0 := by
            rcases hc with ⟨hx, _⟩ | ⟨j, hj, hjn, hc⟩
            · exact absurd ⟨by omega, by omega⟩ hx
            · rcases hc with ⟨q, _, e⟩ | ⟨q, _, e⟩
              · exact absurd q hl
              · exact e
          subst hE

          have ok1 : decide ((ok : Int) < (k : Int)) = true := by simp; omega
          have ok2 : decide ((k : Int) ≤ (ok : Int)) = false := by simp; omega
          have cDn := fun B w g gs hv (d : Dev B w g gs hv D) => down_any d
          rw [show (D.left == 0) = false by simpa using hl] at cDn
          have cOp := fun B w g gs hv (d : Dev B w g gs hv D) => ops_any d
          rw [f4] at cOp
          have hnull : SlI w none [] := Or.inl rfl
          obtain ⟨E2, D2, i2, hc2, cW2⟩ := write_blk _ _ (it.crashed []) (by omega) 0 (by show 0 < D.n; omega) (blk 1) (blk_size 1)
          have hE2 : E2 = 0 := by
            rcases hc2 with ⟨q, _⟩ | ⟨_, q, _⟩ | ⟨_, _, e, _⟩
            · exact absurd (show (-1 : Int) = 0 from q) (by omega)
            · exact absurd (show (0 : Int) = 1 from q) (by omega)
            · exact e
          subst hE2
          have hh := it.held
          have hs := it.safe
          have hlen : D.held.length ≤ 1000000 := by have := it.len; omega
          clear hc hc2 c0 hk2
          go_wp2_with fail
          refine (cRd _ _ _ _ _ t.dev).mono ?_
          rintro e v1 ⟨rfl, z1⟩
          have t1 := t.below z1
          go_wp2_with fail
          refine (cDn _ _ _ _ _ t1.dev).mono ?_
          rintro e v2 ⟨rfl, z2⟩
          rw [z2]
          clear z2
          go_wp2_with fail
          refine (cDn _ _ _ _ _ t1.dev).mono ?_
          rintro e v3 ⟨rfl, z3⟩
          rw [z3]
          clear z3
          go_wp2_with fail
          refine (cOp _ _ _ _ _ t1.dev).mono ?_
          rintro e v4 ⟨rfl, z4⟩
          rw [z4]
          clear z4
          go_wp2_with fail
          refine (crash_any t1.dev [] none 0 (Or.inl rfl) (by intro b off e; cases e) hh hs hlen).mono ?_
          rintro e v5 ⟨rfl, z5, y5⟩
          obtain ⟨hv5, t5, _⟩ := t1.step (.nil z5 y5)
          have cD5 := down_any t5.dev
          rw [show ((D.crashed []).left == 0) = false from rfl] at cD5
          go_wp2_with fail
          refine cD5.mono ?_
          rintro e v6 ⟨rfl, z6⟩
          rw [z6]
          clear z6
          go_wp2_with fail
          refine (block_any 1 1 rfl _).mono ?_
          rintro e v7 ⟨rfl, z7⟩
          have t7 := t5.below z7
          go_wp2_with fail
          refine (cW2 _ _ _ _ _ t7.dev t7.bel.size).mono ?_
          rintro e v8 ⟨rfl, z8⟩
          obtain ⟨hv8, t8, _⟩ := t7.step z8
          go_wp2_with fail
          refine (wakes_any _).mono ?_
          rintro e v9 ⟨rfl, z9⟩
          go_wp2_with fail
          go_ret
          exact ⟨rfl, below2 t8.bel z9⟩

    · have hlt2 : ¬ (i : Int) < (L.length : Int) := by omega
      by_cases hl : D.left = 0
      · have hok : ok = k := by omega
        clear hok
        obtain ⟨T, E, hc, cRd⟩ := read_one _ _ it 0
        have hE : E = 41 := by
          rcases hc with ⟨hx, _⟩ | ⟨j, hj, hjn, hc⟩
          · exact absurd ⟨by omega, by omega⟩ hx
          · rcases hc with ⟨q, _, e⟩ | ⟨q, _, e⟩
            · exact e
            · exact absurd hl q
        subst hE

        have ok1 : decide ((ok : Int) < (k : Int)) = false := by simp; omega
        have ok2 : decide ((k : Int) ≤ (ok : Int)) = true := by simp; omega
        have cDn := fun B w g gs hv (d : Dev B w g gs hv D) => down_any d
        rw [show (D.left == 0) = true by rw [hl]; rfl] at cDn
        have cOp := fun B w g gs hv (d : Dev B w g gs hv D) => ops_any d
        rw [f4] at cOp
        have hnull : SlI w none [] := Or.inl rfl
        obtain ⟨E2, D2, i2, hc2, cW2⟩ := write_blk _ _ (it.crashed []) (by omega) 0 (by show 0 < D.n; omega) (blk 1) (blk_size 1)
        have hE2 : E2 = 0 := by
          rcases hc2 with ⟨q, _⟩ | ⟨_, q, _⟩ | ⟨_, _, e, _⟩
          · exact absurd (show (-1 : Int) = 0 from q) (by omega)
          · exact absurd (show (0 : Int) = 1 from q) (by omega)
          · exact e
        subst hE2
        have hh := it.held
        have hs := it.safe
        have hlen : D.held.length ≤ 1000000 := by have := it.len; omega
        clear hc hc2 c0 hk2
        go_wp2_with fail
        refine (cRd _ _ _ _ _ t.dev).mono ?_
        rintro e v1 ⟨rfl, z1⟩
        have t1 := t.below z1
        go_wp2_with fail
        refine (cDn _ _ _ _ _ t1.dev).mono ?_
        rintro e v2 ⟨rfl, z2⟩
        rw [z2]
        clear z2
        go_wp2_with fail
        refine (cDn _ _ _ _ _ t1.dev).mono ?_
        rintro e v3 ⟨rfl, z3⟩
        rw [z3]
        clear z3
        go_wp2_with fail
        refine (cOp _ _ _ _ _ t1.dev).mono ?_
        rintro e v4 ⟨rfl, z4⟩
        rw [z4]
        clear z4
        go_wp2_with fail
        refine (crash_any t1.dev [] none 0 (Or.inl rfl) (by intro b off e; cases e) hh hs hlen).mono ?_
        rintro e v5 ⟨rfl, z5, y5⟩
        obtain ⟨hv5, t5, _⟩ := t1.step (.nil z5 y5)
        have cD5 := down_any t5.dev
        rw [show ((D.crashed []).left == 0) = false from rfl] at cD5
        go_wp2_with fail
        refine cD5.mono ?_
        rintro e v6 ⟨rfl, z6⟩
        rw [z6]
        clear z6
        go_wp2_with fail
        refine (block_any 1 1 rfl _).mono ?_
        rintro e v7 ⟨rfl, z7⟩
        have t7 := t5.below z7
        go_wp2_with fail
        refine (cW2 _ _ _ _ _ t7.dev t7.bel.size).mono ?_
        rintro e v8 ⟨rfl, z8⟩
        obtain ⟨hv8, t8, _⟩ := t7.step z8
        go_wp2_with fail
        refine (wakes_any _).mono ?_
        rintro e v9 ⟨rfl, z9⟩
        go_wp2_with fail
        go_ret
        exact ⟨rfl, below2 t8.bel z9⟩

      · have hokk : ok < k := by omega
        obtain ⟨T, E, hc, cRd⟩ := read_one _ _ it 0
        have hE : E = 0 := by
          rcases hc with ⟨hx, _⟩ | ⟨j, hj, hjn, hc⟩
          · exact absurd ⟨by omega, by omega⟩ hx
          · rcases hc with ⟨q, _, e⟩ | ⟨q, _, e⟩
            · exact absurd q hl
            · exact e
        subst hE

        have ok1 : decide ((ok : Int) < (k : Int)) = true := by simp; omega
        have ok2 : decide ((k : Int) ≤ (ok : Int)) = false := by simp; omega
        have cDn := fun B w g gs hv (d : Dev B w g gs hv D) => down_any d
        rw [show (D.left == 0) = false by simpa using hl] at cDn
        have cOp := fun B w g gs hv (d : Dev B w g gs hv D) => ops_any d
        rw [f4] at cOp
        have hnull : SlI w none [] := Or.inl rfl
        obtain ⟨E2, D2, i2, hc2, cW2⟩ := write_blk _ _ (it.crashed []) (by omega) 0 (by show 0 < D.n; omega) (blk 1) (blk_size 1)
        have hE2 : E2 = 0 := by
          rcases hc2 with ⟨q, _⟩ | ⟨_, q, _⟩ | ⟨_, _, e, _⟩
          · exact absurd (show (-1 : Int) = 0 from q) (by omega)
          · exact absurd (show (0 : Int) = 1 from q) (by omega)
          · exact e
        subst hE2
        have hh := it.held
        have hs := it.safe
        have hlen : D.held.length ≤ 1000000 := by have := it.len; omega
        clear hc hc2 c0 hk2
        go_wp2_with fail
        refine (cRd _ _ _ _ _ t.dev).mono ?_
        rintro e v1 ⟨rfl, z1⟩
        have t1 := t.below z1
        go_wp2_with fail
        refine (cDn _ _ _ _ _ t1.dev).mono ?_
        rintro e v2 ⟨rfl, z2⟩
        rw [z2]
        clear z2
        go_wp2_with fail
        refine (cDn _ _ _ _ _ t1.dev).mono ?_
        rintro e v3 ⟨rfl, z3⟩
        rw [z3]
        clear z3
        go_wp2_with fail
        refine (cOp _ _ _ _ _ t1.dev).mono ?_
        rintro e v4 ⟨rfl, z4⟩
        rw [z4]
        clear z4
        go_wp2_with fail
        refine (crash_any t1.dev [] none 0 (Or.inl rfl) (by intro b off e; cases e) hh hs hlen).mono ?_
        rintro e v5 ⟨rfl, z5, y5⟩
        obtain ⟨hv5, t5, _⟩ := t1.step (.nil z5 y5)
        have cD5 := down_any t5.dev
        rw [show ((D.crashed []).left == 0) = false from rfl] at cD5
        go_wp2_with fail
        refine cD5.mono ?_
        rintro e v6 ⟨rfl, z6⟩
        rw [z6]
        clear z6
        go_wp2_with fail
        refine (block_any 1 1 rfl _).mono ?_
        rintro e v7 ⟨rfl, z7⟩
        have t7 := t5.below z7
        go_wp2_with fail
        refine (cW2 _ _ _ _ _ t7.dev t7.bel.size).mono ?_
        rintro e v8 ⟨rfl, z8⟩
        obtain ⟨hv8, t8, _⟩ := t7.step z8
        go_wp2_with fail
        refine (wakes_any _).mono ?_
        rintro e v9 ⟨rfl, z9⟩
        go_wp2_with fail
        go_ret
        exact ⟨rfl, below2 t8.bel z9⟩

set_option maxRecDepth 100000 in
theorem devArms_walk {H : Type} {enc : TypeId × Value → H} {base : Nat} {d : DataW H} {ps : List MemPlace} (n rf : Int) (v : Value) (W : World) (hn : -9223372036854775808 ≤ n ∧ n ≤ 9223372036854775807) (hr : -9223372036854775808 ≤ rf ∧ rf ≤ 9223372036854775807)
    (hv : Value.okWide Try.prog W .any base 22 v) (h : DataW.Trod enc Try.prog W 0 (fun _ => true) true 22 v d ps) :
    Calls Try.prog 5 #[.int .i64 n, .int .i64 rf, v] W fun e w' => e = .returned (.bool true) ∧ Below W.heap.size W w' := by
  obtain ⟨a, L, c, rfl, hsl, hall, _⟩ := open_steps hv h
  exact devArms_on n rf L a c W hn hr hsl hall

end Go.Proofs.Ythodnhcnaeajnaa

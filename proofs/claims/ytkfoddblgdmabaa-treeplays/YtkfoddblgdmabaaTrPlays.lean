/- TreePlays: the walk. -/
import Derived.Test.YtkfoddblgdmabaaTrLaw
import Derived.Test.YtkfoddblgdmabaaTrSame
import Derived.Test.YtkfoddblgdmabaaTrArgs
namespace Go.Proofs.Ytkfoddblgdmabaa.tr
open Go.RowKit

theorem near_all {W w : World} {tb f q : Nat} {L : List Ent} (b : Bt W w tb f q L L) (key : ByteArray) : ∀ V, Below w.heap.size w V → Calls Try.prog 17 #[.pointer (some ⟨tb, 0, none⟩), .pointer (some ⟨q, 0, none⟩), .string key] V fun e w' => e = .returned (.bool true) ∧ Below w.heap.size w w' := fun V hV => by
  refine (near_any (b.below hV) key).mono ?_
  rintro e w' ⟨he, _, h⟩
  exact ⟨he, below2 hV h⟩
theorem Dp.iff {f n d : Nat} (h : Dp f n d) : d = 0 ↔ n = 0 := by
  constructor
  · intro q0
    refine Decidable.byContradiction fun q1 => ?_
    obtain ⟨H, h5, _⟩ := h.pos q1
    omega
  · exact h.zero
theorem zero_beq {n d : Nat} {z : Bool} (h : d = 0 ↔ n = 0) (hz : ((d : Int) == 0) = z) : ((n : Int) == 0) = z ∧ (d == 0) = z ∧ (n == 0) = z := by
  have e1 : ((d : Int) == 0) = (d == 0) := by rw [Bool.eq_iff_iff, beq_iff_eq, beq_iff_eq]; omega
  have e2 : ((n : Int) == 0) = (n == 0) := by rw [Bool.eq_iff_iff, beq_iff_eq, beq_iff_eq]; omega
  have e3 : (n == 0) = (d == 0) := by rw [Bool.eq_iff_iff, beq_iff_eq, beq_iff_eq]; exact h.symm
  exact ⟨by rw [e2, e3, ← e1, hz], by rw [← e1, hz], by rw [e3, ← e1, hz]⟩
/-- The worlds in which all that was there is there. -/
structure BelowW (w : World) where
  v : World
  b : Below w.heap.size w v
theorem BelowW.ne (w : World) : Nonempty (BelowW w) := ⟨⟨w, Below.refl _ _⟩⟩
theorem wp_region_quiet_b {P : Program} {id : Nat} {Q : Exit → Act → World → Prop} {a : Act} {w : World} {l : List Oper} (hm : P.follows .mixedOrders = true) (hB : Region.lexB .any l.toArray = true)
    (h : wpQuiet P l.toArray (fun w' => ∃ p : BelowW w, w' = p.v) (fun a' => ∀ w', (∃ p : BelowW w, w' = p.v) → Q .normal a' w') l a) : (Code.region id l.toArray true).wp P Q a w :=
  wp_region_quiet (C := fun w' => ∃ p : BelowW w, w' = p.v) hm hB ⟨⟨w.drew, (Below.refl _ _).drew⟩, rfl⟩ (by simpa using h)
theorem Calls.below_near {P : Program} {f : FuncId} {args : Array Value} {w : World} {p : BelowW w} {v : Value} (h : ∀ V, Below w.heap.size w V → Calls P f args V fun e w' => e = .returned v ∧ Below w.heap.size w w') : Calls P f args p.v fun e w'' => e = .returned v ∧ ∃ q : BelowW w, w'' = q.v :=
  (h p.v p.b).mono fun _ w'' ⟨he, hb⟩ => ⟨he, ⟨w'', hb⟩, rfl⟩
theorem Calls.below_of_same {P : Program} {f : FuncId} {args : Array Value} {w : World} {p : BelowW w} {v : Value} (h : Calls P f args p.v fun e w' => e = .returned v ∧ w' = p.v) : Calls P f args p.v fun e w'' => e = .returned v ∧ ∃ q : BelowW w, w'' = q.v :=
  h.mono fun _ _ ⟨he, hb⟩ => ⟨he, p, hb⟩
theorem BelowW.at {w : World} {b o : Nat} {x : Value} (hb : b < w.heap.size) (h : w.cell? ⟨b, o, none⟩ = some x) (p : BelowW w) : p.v.cell? ⟨b, o, none⟩ = some x := (p.b.cell (p := ⟨b, o, none⟩) hb).trans h
theorem stepCells {w : World} {X : Nat} {a b c : Value} (h : w.heap[X]? = some (.cells #[a, b, c] 34 (0, 0))) : w.cell? ⟨X, 0, none⟩ = some a ∧ w.cell? ⟨X, 1, none⟩ = some b ∧ w.cell? ⟨X, 2, none⟩ = some c :=
  ⟨(cell_obj (j := 0) h).1, (cell_obj (j := 1) h).1, (cell_obj (j := 2) h).1⟩
theorem Oth.step {w w' : World} {X : Nat} {cur : Array Value} (o : Oth w w') (h : w.heap[X]? = some (.cells cur 34 (0, 0))) : w'.heap[X]? = some (.cells cur 34 (0, 0)) :=
  (o X cur _ h (by rintro (q | q | q | q) <;> revert q <;> decide) (by rintro (q | q) <;> revert q <;> decide)).trans h

set_option maxHeartbeats 800000 in
set_option maxRecDepth 100000 in
theorem plays_bad (fan : Int) (a0 : Option Addr) (n cap : Nat) (W : World) (hf : i64B fan) (hb : fan < 3 ∨ 64 < fan) :
    Calls Try.prog 3 #[.int .i64 fan, .slice a0 n cap] W fun e w' => e = .returned (.bool true) ∧ Below W.heap.size W w' := by
  have cN := new_bad W fan hb hf
  have cW := wakes_any W
  by_cases h3 : fan < 3
  · go_enter Try.func3, Try.ntmps3
    go_wp2_with fail
    refine cN.mono ?_
    rintro e w1 ⟨rfl, hw⟩
    rw [hw]
    clear hw cN hb
    go_wp2_with fail
    refine cW.mono ?_
    rintro e w1 ⟨rfl, h1⟩
    go_wp2_with fail
    go_ret
    exact ⟨rfl, h1⟩
  · have h64 : 64 < fan := by omega
    go_enter Try.func3, Try.ntmps3
    go_wp2_with fail
    refine cN.mono ?_
    rintro e w1 ⟨rfl, hw⟩
    rw [hw]
    clear hw cN hb
    go_wp2_with fail
    refine cW.mono ?_
    rintro e w1 ⟨rfl, h1⟩
    go_wp2_with fail
    go_ret
    exact ⟨rfl, h1⟩

set_option maxHeartbeats 25600000 in
set_option maxRecDepth 100000 in
theorem plays_good (f : Nat) (a0 : Option Addr) (L : List Sp) (cap : Nat) (W : World) (h3 : 3 ≤ f) (h64 : f ≤ 64) (hL : SlS W a0 L) (hcap : L.length ≤ maxLen) (hok : ∀ s ∈ L, s.ok) :
    Calls Try.prog 3 #[.int .i64 (f : Int), .slice a0 L.length cap] W fun e w' => e = .returned (.bool true) ∧ Below W.heap.size W w' := by
  have cN := new_any W f h3 h64
  have HL := (show Hid _ from hL)
  have HK := (show Hid _ from hok)
  have HF3 : Hid (3 ≤ f ∧ f ≤ 64) := ⟨h3, h64⟩
  have d1 : ¬ ((f : Int) < 3) := by omega
  have d2 : ¬ ((64 : Int) < (f : Int)) := by omega
  clear hok h3
  go_enter Try.func3, Try.ntmps3
  go_wp2_with fail
  refine cN.mono ?_
  rintro e w1 ⟨tb, M, rfl, t1, h1⟩
  have cF := fair_any a0 L cap w1 (hL.kept h1) hcap
  have HT := (show Hid _ from And.intro t1 h1)
  clear cN t1 h1 hL
  go_wp2_with fail
  refine cF.mono ?_
  rintro e w2 ⟨rfl, hw⟩
  rw [hw]
  clear hw cF w2
  cases hfr : fairL L
  · have cW := wakes_any w1
    go_wp2_with fail
    refine cW.mono ?_
    rintro e w3 ⟨rfl, b3⟩
    clear cW
    go_wp2_with fail
    go_ret
    exact ⟨rfl, below2 HT.out.2 b3⟩
  have HF := (show Hid _ from fair_of hfr)
  have HB0 := (show Hid _ from Bt.start HT.out.1 HT.out.2)
  have hlen2 : L.length ≤ 400 := HF.out.1
  clear hfr HT
  go_wp2_with fail
  generalize w1.heap.size = q at *
  generalize w1.alloc (.cells #[.slice none 0 0] 32) = w2 at *
  go_loopw [5, 8] (fun st si wr => ∃ (i tb : Nat) (Lx : List Ent), i ≤ L.length ∧ si = .int .i64 (i : Int) ∧ st = .pointer (some ⟨tb, 0, none⟩) ∧ Hid (Bt W wr tb f q Lx Lx)) (fun _ si _ => L.length - (Go.RowKit.intOf si).toNat)
  case atStart => exact ⟨0, tb, [], Nat.zero_le _, rfl, rfl, HB0.out⟩
  case round =>
    clear HB0
    obtain ⟨i, tb, Lx, hi, rfl, rfl, hr⟩ := hrel
    by_cases hlt : i < L.length
    · have hlt2 : (i : Int) < (L.length : Int) := by omega
      have hx : L[i]? = some L[i] := by simp [hlt]
      generalize L[i] = s at hx
      have hok := HK.out s (List.mem_of_getElem? hx)
      have hkB := hok.kB
      have hks := HF.out.2 s (List.mem_of_getElem? hx)
      rcases HL.out with hL2 | ⟨b, off, rfl, hlb, hcell⟩
      · rw [hL2] at hlt; simp at hlt
      have s0 := (hr.out.bel.cell (p := ⟨b, _, none⟩) hlb).trans (hcell i s hx 0 _ rfl)
      have s1 := (hr.out.bel.cell (p := ⟨b, _, none⟩) hlb).trans (hcell i s hx 1 _ rfl)
      have s2 := (hr.out.bel.cell (p := ⟨b, _, none⟩) hlb).trans (hcell i s hx 2 _ rfl)
      rw [Nat.add_zero] at s0
      clear hcell hx hok
      obtain ⟨kk, key, z⟩ := s
      simp only at s0 s1 s2 hkB hks
      have B3 := (show Hid _ from hr.out.below (below_alloc1 wr (.cells #[.int .i64 kk, .string key, .int .i64 z] 34)))
      have n3 := heap_alloc_new wr (.cells #[.int .i64 kk, .string key, .int .i64 z] 34)
      have HX := (show Hid _ from n3)
      obtain ⟨x0, x1, x2⟩ := stepCells n3
      clear hr n3
      by_cases k0 : kk = 0
      · subst k0
        have cP := B3.out.put key z (by omega)
        go_wp2_with fail
        generalize wr.alloc (.cells #[.int .i64 0, .string key, .int .i64 z] 34) = w3 at *
        generalize wr.heap.size = X at *
        refine cP.mono ?_
        rintro e w4 ⟨rfl, b4, o4⟩
        have HX4 := (show Hid _ from o4.step HX.out)
        have hsr := B3.out.srt
        obtain ⟨y0, y1, y2⟩ := stepCells HX4.out
        have cQ := b4.rput key z hsr
        clear cP b4 o4 x0 x1 x2 s0 s1 s2
        obtain ⟨⟨p1, p2, Lx5⟩, hp⟩ : ∃ p, putT key z Lx = p := ⟨_, rfl⟩
        rw [hp] at cQ ⊢
        clear hp
        go_wp2_with fail
        refine cQ.mono ?_
        rintro e w5 ⟨rfl, b5, o5⟩
        have HX5 := (show Hid _ from o5.step HX4.out)
        have HB5 := (show Hid _ from b5)
        clear cQ b5 o5 y0 y1 y2
        go_wp2_with fail
        obtain ⟨y0, y1, y2⟩ := stepCells HX5.out
        obtain ⟨M5, v5, t5, r5⟩ := HB5.out.ex
        obtain ⟨va, vc, ev, _, _⟩ := r5.row.len
        have z0 := (cell_obj (j := 0) r5.top).1
        rw [ev] at z0
        have hl5 := HB5.out.len
        obtain ⟨d, hdp, hd5, cD⟩ := HB5.out.depth
        obtain ⟨D, hD, hdD0, cR⟩ := rdepth_any Lx5.length f hl5 HF3.out.1 HF3.out.2
        have cN := near_all HB5.out key
        have hdD := hdD0 d hdp
        have hz := hdp.iff
        obtain ⟨n5, hn5⟩ : ∃ n5, Lx5.length = n5 := ⟨_, rfl⟩
        have z1 : w5.cell? ⟨q, 0, none⟩ = some (.slice va n5 vc) := by rw [← hn5]; exact z0
        rw [hn5] at cR hz hl5
        have hdD1 : decide ((D : Int) < (d : Int)) = false := by simp; omega
        have hdD2 : decide (D < d) = false := by simp; omega
        obtain ⟨zb, hzb⟩ : ∃ zb, ((d : Int) == 0) = zb := ⟨_, rfl⟩
        obtain ⟨hzn, hzb2, hzn2⟩ := zero_beq hz hzb
        have Y1 := BelowW.at (Array.getElem?_eq_some_iff.1 HX5.out).1 y1
        have Z1 := BelowW.at (Array.getElem?_eq_some_iff.1 r5.top).1 z1
        clear z0 z1 ev t5 r5 hdp hdD0 hdD y0 y1 y2 hz hn5
        have inst := BelowW.ne w5
        refine wp_region_quiet_b (by kernel_rfl) (by kernel_rfl) ?_
        repeat (go_big_quiet_step (first
          | (go_at_call 17; exact Calls.below_near (fun V hV => cN V hV))
          | (go_at_call 18; exact Calls.below_of_same (cD _ (BelowW.b _)))
          | (go_at_call 19; exact Calls.below_of_same (cR _))))
        refine wpQuiet_nil ?_
        intro _ hw'
        obtain ⟨⟨w9, hB9⟩, hw''⟩ := hw'
        subst hw''
        have HB9 := (show Hid _ from HB5.out.below hB9)
        clear cD cR cN hB9 Y1 Z1 hdD1 hdD2 hzb hzn hzb2 hzn2
        go_wp2_with fail
        go_roundw
        case rel => exact ⟨i + 1, _, Lx5, by omega, by go_num, rfl, HB9⟩
        case measure => simp [Go.RowKit.intOf]; omega
      have e0k : (kk == 0) = false := by simpa using k0
      by_cases k1 : kk = 1
      · clear k0
        subst k1
        have cP := (B3.out.below (below_drew _)).del key
        have cQ := (B3.out.below (below_drew _)).rdel key B3.out.srt
        have hsr := B3.out.srt
        clear x2
        go_wp2_with fail
        generalize wr.alloc (.cells #[.int .i64 1, .string key, .int .i64 z] 34) = w3 at *
        generalize wr.heap.size = X at *
        clear s0 s1 s2
        have HXd : Hid (w3.drew.heap[X]? = some (.cells #[.int .i64 1, .string key, .int .i64 z] 34 (0, 0))) := HX.out
        obtain ⟨Lx5, hL5⟩ : ∃ Lx5, delL key Lx = Lx5 := ⟨_, rfl⟩
        obtain ⟨p1, hp1⟩ : ∃ p1, hasL key Lx = p1 := ⟨_, rfl⟩
        have HLx := (show Hid _ from And.intro hL5 hp1)
        rw [hp1, hL5] at cP cQ
        clear hL5 hp1
        apply wp_end (R := fun U => Bt W U tb f q Lx5 Lx5 ∧ U.heap[X]? = some (.cells #[.int .i64 1, .string key, .int .i64 z] 34 (0, 0)))
        case h =>
          go_region_held3 (fun U => U.cell? ⟨X, 1, none⟩ = some (.string key)) (first | exact hB | exact x1 | go_keep)
            (first
              | (have _ := cB1; go_at_call 15; refine cB1.mono ?_; rintro e w5 ⟨rfl, b5, o5⟩; have hX5 := o5.step hX4; have hB := (stepCells hX5).2.1)
              | (have _ := cB2; go_at_call 14; refine cB2.mono ?_; rintro e w5 ⟨rfl, b5, o5⟩; have hX5 := o5.step hX4; have hB := (stepCells hX5).2.1)
              | (go_at_call 14; refine cP.mono ?_; rintro e w4 ⟨rfl, b4, o4⟩; have hX4 := o4.step HXd.out; have cB1 := b4.rdel key hsr; rw [HLx.out.1, HLx.out.2] at cB1; have hB := (stepCells hX4).2.1)
              | (go_at_call 15; refine cQ.mono ?_; rintro e w4 ⟨rfl, b4, o4⟩; have hX4 := o4.step HXd.out; have cB2 := b4.del key; rw [HLx.out.1, HLx.out.2] at cB2; have hB := (stepCells hX4).2.1))
          all_goals exact EndQ.mk ⟨b5, hX5⟩
        rintro w5 ⟨b5, hX5⟩
        have HX5 := (show Hid _ from hX5)
        have HB5 := (show Hid _ from b5)
        clear cP cQ b5 hX5 x0 x1
        go_wp2_with fail
        obtain ⟨y0, y1, y2⟩ := stepCells HX5.out
        obtain ⟨M5, v5, t5, r5⟩ := HB5.out.ex
        obtain ⟨va, vc, ev, _, _⟩ := r5.row.len
        have z0 := (cell_obj (j := 0) r5.top).1
        rw [ev] at z0
        have hl5 := HB5.out.len
        obtain ⟨d, hdp, hd5, cD⟩ := HB5.out.depth
        obtain ⟨D, hD, hdD0, cR⟩ := rdepth_any Lx5.length f hl5 HF3.out.1 HF3.out.2
        have cN := near_all HB5.out key
        have hdD := hdD0 d hdp
        have hz := hdp.iff
        obtain ⟨n5, hn5⟩ : ∃ n5, Lx5.length = n5 := ⟨_, rfl⟩
        have z1 : w5.cell? ⟨q, 0, none⟩ = some (.slice va n5 vc) := by rw [← hn5]; exact z0
        rw [hn5] at cR hz hl5
        have hdD1 : decide ((D : Int) < (d : Int)) = false := by simp; omega
        have hdD2 : decide (D < d) = false := by simp; omega
        obtain ⟨zb, hzb⟩ : ∃ zb, ((d : Int) == 0) = zb := ⟨_, rfl⟩
        obtain ⟨hzn, hzb2, hzn2⟩ := zero_beq hz hzb
        have Y1 := BelowW.at (Array.getElem?_eq_some_iff.1 HX5.out).1 y1
        have Z1 := BelowW.at (Array.getElem?_eq_some_iff.1 r5.top).1 z1
        clear z0 z1 ev t5 r5 hdp hdD0 hdD y0 y1 y2 hz hn5
        have inst := BelowW.ne w5
        refine wp_region_quiet_b (by kernel_rfl) (by kernel_rfl) ?_
        repeat (go_big_quiet_step (first
          | (go_at_call 17; exact Calls.below_near (fun V hV => cN V hV))
          | (go_at_call 18; exact Calls.below_of_same (cD _ (BelowW.b _)))
          | (go_at_call 19; exact Calls.below_of_same (cR _))))
        refine wpQuiet_nil ?_
        intro _ hw'
        obtain ⟨⟨w9, hB9⟩, hw''⟩ := hw'
        subst hw''
        have HB9 := (show Hid _ from HB5.out.below hB9)
        clear cD cR cN hB9 Y1 Z1 hdD1 hdD2 hzb hzn hzb2 hzn2
        go_wp2_with fail
        go_roundw
        case rel => exact ⟨i + 1, _, Lx5, by omega, by go_num, rfl, HB9⟩
        case measure => simp [Go.RowKit.intOf]; omega
      have e1k : (kk == 1) = false := by simpa using k1
      by_cases k3 : kk = 3
      · clear k0 k1
        subst k3
        have cP := B3.out.copy
        go_wp2_with fail
        generalize wr.alloc (.cells #[.int .i64 3, .string key, .int .i64 z] 34) = w3 at *
        generalize wr.heap.size = X at *
        refine cP.mono ?_
        rintro e w5 ⟨tc, rfl, b5, o5⟩
        have HX5 := (show Hid _ from (o5.block X (Array.getElem?_eq_some_iff.1 HX.out).1).trans HX.out)
        have HB5 := (show Hid _ from b5)
        clear cP b5 o5 x0 x1 x2 s0 s1 s2
        go_wp2_with fail
        obtain ⟨y0, y1, y2⟩ := stepCells HX5.out
        obtain ⟨M5, v5, t5, r5⟩ := HB5.out.ex
        obtain ⟨va, vc, ev, _, _⟩ := r5.row.len
        have z0 := (cell_obj (j := 0) r5.top).1
        rw [ev] at z0
        have hl5 := HB5.out.len
        obtain ⟨d, hdp, hd5, cD⟩ := HB5.out.depth
        obtain ⟨D, hD, hdD0, cR⟩ := rdepth_any Lx.length f hl5 HF3.out.1 HF3.out.2
        have cN := near_all HB5.out key
        have hdD := hdD0 d hdp
        have hz := hdp.iff
        obtain ⟨n5, hn5⟩ : ∃ n5, Lx.length = n5 := ⟨_, rfl⟩
        have z1 : w5.cell? ⟨q, 0, none⟩ = some (.slice va n5 vc) := by rw [← hn5]; exact z0
        rw [hn5] at cR hz hl5
        have hdD1 : decide ((D : Int) < (d : Int)) = false := by simp; omega
        have hdD2 : decide (D < d) = false := by simp; omega
        obtain ⟨zb, hzb⟩ : ∃ zb, ((d : Int) == 0) = zb := ⟨_, rfl⟩
        obtain ⟨hzn, hzb2, hzn2⟩ := zero_beq hz hzb
        have Y1 := BelowW.at (Array.getElem?_eq_some_iff.1 HX5.out).1 y1
        have Z1 := BelowW.at (Array.getElem?_eq_some_iff.1 r5.top).1 z1
        clear z0 z1 ev t5 r5 hdp hdD0 hdD y0 y1 y2 hz hn5
        have inst := BelowW.ne w5
        refine wp_region_quiet_b (by kernel_rfl) (by kernel_rfl) ?_
        repeat (go_big_quiet_step (first
          | (go_at_call 17; exact Calls.below_near (fun V hV => cN V hV))
          | (go_at_call 18; exact Calls.below_of_same (cD _ (BelowW.b _)))
          | (go_at_call 19; exact Calls.below_of_same (cR _))))
        refine wpQuiet_nil ?_
        intro _ hw'
        obtain ⟨⟨w9, hB9⟩, hw''⟩ := hw'
        subst hw''
        have HB9 := (show Hid _ from HB5.out.below hB9)
        clear cD cR cN hB9 Y1 Z1 hdD1 hdD2 hzb hzn hzb2 hzn2
        go_wp2_with fail
        go_roundw
        case rel => exact ⟨i + 1, _, Lx, by omega, by go_num, rfl, HB9⟩
        case measure => simp [Go.RowKit.intOf]; omega
      have e3k : (kk == 3) = false := by simpa using k3
      clear k0 k1 k3
      go_wp2_with fail
      generalize wr.alloc (.cells #[.int .i64 kk, .string key, .int .i64 z] 34) = w5 at *
      generalize wr.heap.size = X at *
      have HX5 := HX
      have HB5 := B3
      clear x0 x1 x2 s0 s1 s2
      obtain ⟨y0, y1, y2⟩ := stepCells HX5.out
      obtain ⟨M5, v5, t5, r5⟩ := HB5.out.ex
      obtain ⟨va, vc, ev, _, _⟩ := r5.row.len
      have z0 := (cell_obj (j := 0) r5.top).1
      rw [ev] at z0
      have hl5 := HB5.out.len
      obtain ⟨d, hdp, hd5, cD⟩ := HB5.out.depth
      obtain ⟨D, hD, hdD0, cR⟩ := rdepth_any Lx.length f hl5 HF3.out.1 HF3.out.2
      have cN := near_all HB5.out key
      have hdD := hdD0 d hdp
      have hz := hdp.iff
      obtain ⟨n5, hn5⟩ : ∃ n5, Lx.length = n5 := ⟨_, rfl⟩
      have z1 : w5.cell? ⟨q, 0, none⟩ = some (.slice va n5 vc) := by rw [← hn5]; exact z0
      rw [hn5] at cR hz hl5
      have hdD1 : decide ((D : Int) < (d : Int)) = false := by simp; omega
      have hdD2 : decide (D < d) = false := by simp; omega
      obtain ⟨zb, hzb⟩ : ∃ zb, ((d : Int) == 0) = zb := ⟨_, rfl⟩
      obtain ⟨hzn, hzb2, hzn2⟩ := zero_beq hz hzb
      have Y1 := BelowW.at (Array.getElem?_eq_some_iff.1 HX5.out).1 y1
      have Z1 := BelowW.at (Array.getElem?_eq_some_iff.1 r5.top).1 z1
      clear z0 z1 ev t5 r5 hdp hdD0 hdD y0 y1 y2 hz hn5
      have inst := BelowW.ne w5
      refine wp_region_quiet_b (by kernel_rfl) (by kernel_rfl) ?_
      repeat (go_big_quiet_step (first
        | (go_at_call 17; exact Calls.below_near (fun V hV => cN V hV))
        | (go_at_call 18; exact Calls.below_of_same (cD _ (BelowW.b _)))
        | (go_at_call 19; exact Calls.below_of_same (cR _))))
      refine wpQuiet_nil ?_
      intro _ hw'
      obtain ⟨⟨w9, hB9⟩, hw''⟩ := hw'
      subst hw''
      have HB9 := (show Hid _ from HB5.out.below hB9)
      clear cD cR cN hB9 Y1 Z1 hdD1 hdD2 hzb hzn hzb2 hzn2
      go_wp2_with fail
      go_roundw
      case rel => exact ⟨i + 1, _, Lx, by omega, by go_num, rfl, HB9⟩
      case measure => simp [Go.RowKit.intOf]; omega
    · obtain rfl : i = L.length := by omega
      obtain ⟨M5, v5, t5, r5⟩ := hr.out.ex
      obtain ⟨va, vc, ev, _, _⟩ := r5.row.len
      have CE : Hid (∀ V, Below wr.heap.size wr V → V.cell? ⟨q, 0, none⟩ = some (.slice va Lx.length vc)) := fun V hV => by
        have h1 := (r5.below hV).top
        rw [(cell_obj (j := 0) h1).1, ← ev]
        rfl
      have HR : Hid (RowR wr W.heap.size (.slice va Lx.length vc) Lx) := by rw [← ev]; exact r5.row
      have hl5 := hr.out.len
      have hRg : ∀ V, Below wr.heap.size wr V → Calls Try.prog 21 #[.pointer (some ⟨tb, 0, none⟩), .string ⟨#[]⟩, .string ⟨#[]⟩, .int .i64 4096] V fun e w' => ∃ v, e = .returned v ∧ RowE w' V.heap.size v Lx ∧ Below V.heap.size V w' := fun V hV => by
        have h1 := (hr.out.below hV).range ⟨#[]⟩ ⟨#[]⟩ 4096
        rw [rg_empty, tk_all 4096 _ [] (by simp; omega), List.nil_append] at h1
        exact h1.mono fun e w' ⟨v, he, row, _, h2⟩ => ⟨v, he, row, h2⟩
      clear r5 t5 ev
      go_wp2_with fail
      refine anyL_begin (S := fun V => Below wr.heap.size wr V) (n := 10) (by kernel_rfl) (below_drew wr) (fun hHeld => ?_)
      refine takeL 0 133 (v := .pointer (some ⟨tb, 0, none⟩)) rfl rfl (by kernel_rfl) (by kernel_rfl) (by kernel_rfl) (by kernel_rfl) (fun _ _ _ h => h) (Or.inl ⟨by rfl, by (intro W hSw; have s1 := CE.out W hSw; go_simp)⟩) hHeld ?_
      simp only [List.setIfInBounds_toArray, List.set_cons_zero, List.set_cons_succ]
      refine takeL 2 135 (v := .pointer (some ⟨q, 0, none⟩)) rfl rfl (by kernel_rfl) (by kernel_rfl) (by kernel_rfl) (by kernel_rfl) (fun _ _ _ h => h) (Or.inl ⟨by rfl, by (intro W hSw; have s1 := CE.out W hSw; go_simp)⟩) hHeld ?_
      simp only [List.setIfInBounds_toArray, List.set_cons_zero, List.set_cons_succ]
      refine takeL 3 136 (v := .pointer (some ⟨q, 0, none⟩)) rfl rfl (by kernel_rfl) (by kernel_rfl) (by kernel_rfl) (by kernel_rfl) (fun _ _ _ h => h) (Or.inl ⟨by rfl, by (intro W hSw; have s1 := CE.out W hSw; go_simp)⟩) hHeld ?_
      simp only [List.setIfInBounds_toArray, List.set_cons_zero, List.set_cons_succ]
      refine takeL 4 137 (v := .pointer (some ⟨q, 0, none⟩)) rfl rfl (by kernel_rfl) (by kernel_rfl) (by kernel_rfl) (by kernel_rfl) (fun _ _ _ h => h) (Or.inl ⟨by rfl, by (intro W hSw; have s1 := CE.out W hSw; go_simp)⟩) hHeld ?_
      simp only [List.setIfInBounds_toArray, List.set_cons_zero, List.set_cons_succ]
      refine takeL 5 138 (v := .slice va Lx.length vc) rfl rfl (by kernel_rfl) (by kernel_rfl) (by kernel_rfl) (by kernel_rfl) (fun _ _ _ h => h) (Or.inl ⟨by rfl, by (intro W hSw; have s1 := CE.out W hSw; go_simp)⟩) hHeld ?_
      simp only [List.setIfInBounds_toArray, List.set_cons_zero, List.set_cons_succ]
      refine anyL_one 1 (by kernel_rfl) (upL rfl (fun K hK => ?_))
      go_simp
      refine (hRg _ hHeld).mono ?_
      rintro e w6 ⟨v6, rfl, row6, h6⟩
      have hb6 := below2 hHeld h6
      have HR6 := (show Hid _ from row6)
      clear row6 h6 hRg
      go_simp
      refine hK.out _ _ (fun _ => hb6) (fun hHeld0 => ?_)
      have hHeld := hHeld0 (by decide)
      clear hHeld0 hK K
      (try simp only [Act.put, List.setIfInBounds_toArray, List.set_cons_zero, List.set_cons_succ])
      refine anyL_one 6 (by kernel_rfl) (upL rfl (fun K hK => ?_))
      go_simp
      refine (same_any HR6.out (HR.out.below' hHeld) (by omega)).mono ?_
      rintro e w7 ⟨rfl, h7⟩
      have hb7 := below2 hHeld h7
      clear h7
      go_simp
      refine hK.out _ _ (fun _ => hb7) (fun hHeld0 => ?_)
      have hHeld := hHeld0 (by decide)
      clear hHeld0 hK K
      (try simp only [Act.put, List.setIfInBounds_toArray, List.set_cons_zero, List.set_cons_succ])
      refine anyL_one 7 (by kernel_rfl) (upL rfl (fun K hK => ?_))
      go_simp
      refine hK.out _ _ (fun _ => hHeld) (fun hHeld0 => ?_)
      have hHeld := hHeld0 (by decide)
      clear hHeld0 hK K
      (try simp only [Act.put, List.setIfInBounds_toArray, List.set_cons_zero, List.set_cons_succ])
      refine anyL_one 8 (by kernel_rfl) (upL rfl (fun K hK => ?_))
      go_simp
      refine (wakes_any _).mono ?_
      rintro e w8 ⟨rfl, h8⟩
      have hb8 := below2 hHeld h8
      clear h8
      go_simp
      refine hK.out _ _ (fun _ => hb8) (fun hHeld0 => ?_)
      have hHeld := hHeld0 (by decide)
      clear hHeld0 hK K
      (try simp only [Act.put, List.setIfInBounds_toArray, List.set_cons_zero, List.set_cons_succ])
      refine anyL_one 9 (by kernel_rfl) (upL rfl (fun K hK => ?_))
      go_simp
      refine hK.out _ _ (fun _ => hHeld) (fun hHeld0 => ?_)
      have hHeld := hHeld0 (by decide)
      clear hHeld0 hK K
      (try simp only [Act.put, List.setIfInBounds_toArray, List.set_cons_zero, List.set_cons_succ])
      refine anyL_one 10 (by kernel_rfl) (upL rfl (fun K hK => ?_))
      go_simp
      refine hK.out _ _ (fun q => absurd rfl q) (fun _ => ?_)
      clear hK K
      (try simp only [Act.put, List.setIfInBounds_toArray, List.set_cons_zero, List.set_cons_succ])
      refine anyL_done (by kernel_rfl) ?_ _
      go_wp2_with fail
      go_ret
      exact ⟨rfl, (hr.out.below hHeld).bel⟩

set_option maxRecDepth 100000 in
theorem treePlays_on (fan : Int) (v : Value) (W : World) (hf : i64B fan) {H : Type} {enc : TypeId × Value → H} {base : Nat} {d : DataW H} {p : List MemPlace} (hv : Value.okWide Try.prog W .any base 22 v) (h : DataW.Trod enc Try.prog W 0 (fun _ => true) true 22 v d p) :
    Calls Try.prog 3 #[.int .i64 fan, v] W fun e w' => e = .returned (.bool true) ∧ Below W.heap.size W w' := by
  obtain ⟨a, L, cap, rfl, hL, hc, hm, hok⟩ := open_steps hv h
  by_cases hb : fan < 3 ∨ 64 < fan
  · exact plays_bad fan a L.length cap W hf hb
  · obtain ⟨f, rfl⟩ : ∃ f : Nat, fan = (f : Int) := ⟨fan.toNat, by omega⟩
    exact plays_good f a L cap W (by omega) (by omega) hL (Nat.le_trans hc hm) hok

end Go.Proofs.Ytkfoddblgdmabaa.tr

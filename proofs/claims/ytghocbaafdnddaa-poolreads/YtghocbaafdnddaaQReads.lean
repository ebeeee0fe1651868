/- PoolReads: the walk. -/
import Derived.Test.YtghocbaafdnddaaQReadsMath
import Derived.Test.YtghocbaafdnddaaQArgs
namespace Go.Proofs.Ytghocbaafdnddaa
open Go.RowKit

/-- What each page should read as, as the law has it. -/
def barr (V : Nat → UInt8) : Array Value := ((List.range 12).map (fun j => Value.int .u8 ((V j).toNat : Int))).toArray
def bobj (V : Nat → UInt8) : Obj := .cells (barr V) 31 (0, 0)
theorem bobj_cell {w : World} {b j : Nat} {V : Nat → UInt8} (h : w.heap[b]? = some (bobj V)) (hj : j < 12) : w.cell? ⟨b, j, none⟩ = some (.int .u8 ((V j).toNat : Int)) := by
  simp [World.cell?, h, bobj, barr, hj]
theorem bobj_free {w : World} {b : Nat} {V : Nat → UInt8} (h : w.heap[b]? = some (bobj V)) (o : Nat) : w.frozen? ⟨b, o, none⟩ = false := by simp [World.frozen?, h, bobj]
theorem bobj_set {w : World} {b j : Nat} {V : Nat → UInt8} (h : w.heap[b]? = some (bobj V)) (_hj : j < 12) (v : UInt8) : (w.setCell ⟨b, j, none⟩ (.int .u8 (v.toNat : Int))).heap[b]? = some (bobj (putB V j v)) := by
  have := heap_setCell_same w b j _ _ (.int .u8 (v.toNat : Int)) h
  rw [this]
  unfold bobj barr
  congr 2
  rw [List.setIfInBounds_toArray]
  congr 1
  apply List.ext_getElem?
  intro i
  rw [List.getElem?_set]
  by_cases e : j = i
  · subst e
    simp [_hj, putB]
  · rw [if_neg e]
    by_cases hi : i < 12
    · simp [hi, putB, show i ≠ j from fun z => e z.symm]
    · simp [hi]

structure Re (W : World) (p g bd pb : Nat) (wr : World) (S : St) (V : Nat → UInt8) : Prop where
  q : Q1 W wr p g bd S [(pb, bobj V)]
  v : Vw S V
  l : Loose S

set_option maxHeartbeats 12800000 in
set_option maxRecDepth 100000 in
theorem poolReads_walk (fr : Int) (a : Option Addr) (L : List Sp) (c : Nat) (w0 : World) (hfr : i64B fr) (hL : SlG w0 a 3 Sp.cells L) (hLb : ∀ x ∈ L, x.ok) (_hc : L.length ≤ c) (hcm : c ≤ maxLen) :
    Calls Try.prog 3 #[.int .i64 fr, .slice a L.length c] w0 fun e w' => e = .returned (.bool true) ∧ Below w0.heap.size w0 w' := by
  have hcm2 : (L.length : Int) ≤ 9223372036854775807 := by unfold maxLen at hcm; omega
  have cN := new_any 12 w0 (by decide) (by decide)
  go_enter Try.func3, Try.ntmps3
  go_wp2_with fail
  refine cN.mono ?_
  rintro e w1 ⟨g, gs, rfl, d1, b1⟩
  clear cN
  have cM := mod_any fr 6 w1 hfr.1 hfr.2 (by decide) (by decide)
  go_wp2_with fail
  refine cM.mono ?_
  rintro e w1' ⟨r, rfl, hr, hw1⟩
  subst hw1
  clear cM
  have cP := q1_new (n := 1 + r) (by omega) (by omega) d1 (inv_new 12 (by decide) (by decide)) b1
  rw [show ((1 + r : Nat) : Int) = 1 + (r : Int) by omega] at cP
  clear d1 b1
  go_wp2_with fail
  refine cP.mono ?_
  rintro e w2 ⟨p, rfl, q2⟩
  clear cP
  have Q2 : Hid (Q1 w0 w2 p g 0 ⟨1 + r, [], 0, 0, D0 12⟩ []) := q2
  have hpbW : w0.heap.size ≤ w2.heap.size := q2.bel.size
  clear q2
  go_wp2_with fail
  go_loopw [10] (fun si wr => ∃ (i : Nat) (S : St) (V : Nat → UInt8), i ≤ 200 ∧ si = .int .i64 (i : Int) ∧ Re w0 p g (5 * i) w2.heap.size wr S V) (fun si _ => 200 - (intOf si).toNat)
  case atStart => exact ⟨0, _, fun _ => 0, Nat.zero_le _, rfl, ⟨Q2.out.alloc (bobj (fun _ => 0)), (vw_new _).1, (vw_new _).2⟩⟩
  case round =>
    obtain ⟨i, S, V, hi2, rfl, hre⟩ := hrel
    have hbw := hre.q.bel
    have HRE : Hid (Re w0 p g (5 * i) w2.heap.size wr S V) := hre
    generalize w2.heap.size = pb at *
    by_cases hgo : i < L.length ∧ i < 200
    · obtain ⟨hlt, hlt2⟩ := hgo
      have hx : L[i]? = some L[i] := by simp [hlt]
      have hxb := hLb L[i] (List.getElem_mem hlt)
      generalize L[i] = sp at hx hxb
      obtain ⟨bl, off, rfl, hbl, hcells⟩ := hL.resolve_left (fun e => by rw [e] at hlt; simp at hlt)
      obtain ⟨kind, at_, fill⟩ := sp
      have s0 : w0.cell? ⟨bl, off + i * 3, none⟩ = some (.int .i64 kind) := hcells i _ hx 0 (.int .i64 kind) rfl
      have s1 : w0.cell? ⟨bl, off + i * 3 + 1, none⟩ = some (.int .i64 at_) := hcells i _ hx 1 (.int .i64 at_) rfl
      have s2 : w0.cell? ⟨bl, off + i * 3 + 2, none⟩ = some (.int .u8 fill) := hcells i _ hx 2 (.int .u8 fill) rfl
      have kB : i64B kind := hxb.kB
      have aB : i64B at_ := hxb.aB
      have fB : u8B fill := hxb.fB
      clear hcells hx hxb
      obtain ⟨fb, hfb⟩ : ∃ fb : UInt8, fill = (fb.toNat : Int) := ⟨UInt8.ofNat fill.toNat, by have := fB.1; have := fB.2; rw [UInt8.toNat_ofNat']; omega⟩
      subst hfb
      have d0 := (hbw.cell (p := ⟨bl, off + i * 3, none⟩) hbl).trans s0
      have d1 := (hbw.cell (p := ⟨bl, off + i * 3 + 1, none⟩) hbl).trans s1
      have cM := mod_any at_ 12 wr aB.1 aB.2 (by decide) (by decide)
      clear hre
      go_wp2_with fail
      all_goals try (exfalso; omega)
      refine cM.mono ?_
      rintro e w3 ⟨k, rfl, hk, hw3⟩
      subst hw3
      clear cM
      obtain ⟨p1, p2, A, gf, p3, p4, p5, p6⟩ := HRE.out.v.pin HRE.out.q.ok HRE.out.l k hk
      have c1 := HRE.out.q.pin (by omega) (k : Int)
      rw [p1] at c1
      simp only at c1
      have HV1 : Hid (Vw (pinS S (k : Int)).2 V) := p2
      have HL1 : Hid ((pinS S (k : Int)).2.l = A ++ [gf]) := p3
      have HA1 : Hid (∀ f ∈ A, f.pg ≠ k ∧ f.pins = 0) := p4
      have HG1 : Hid (gf.pg = k) := p5
      have HP1 : Hid (gf.pins = 1) := p6
      clear p1 p2 p3 p4 p5 p6
      generalize hS1 : (pinS S (k : Int)).2 = S1 at *
      clear hS1
      go_wp2_with fail
      refine c1.mono ?_
      rintro e w4 ⟨rfl, q4⟩
      clear c1
      have hbo := q4.at (k := pb) (o := bobj V) (by simp)
      have bc := bobj_cell hbo hk
      have Q4a : Hid (Q1 w0 w4 p g (5 * i + 2) S1 [(pb, bobj V)]) := q4
      have cB := block_any _ (V k) rfl w4
      have hkk : (k : Int) < 12 := by omega
      clear q4
      go_wp2_with fail
      refine cB.mono ?_
      rintro e w5 ⟨rfl, hb5⟩
      clear cB
      have q5 := Q4a.out.below hb5
      have d02 := (q5.bel.cell (p := ⟨bl, off + i * 3, none⟩) hbl).trans s0
      have d12 := (q5.bel.cell (p := ⟨bl, off + i * 3 + 1, none⟩) hbl).trans s1
      have d22 := (q5.bel.cell (p := ⟨bl, off + i * 3 + 2, none⟩) hbl).trans s2
      have Q5a : Hid (Q1 w0 w5 p g (5 * i + 2) S1 [(pb, bobj V)]) := q5
      have hbo5 := q5.at (k := pb) (o := bobj V) (by simp)
      have HBO5 : Hid (w5.heap[pb]? = some (bobj V)) := hbo5
      clear q5 bc hbo d0 d1
      by_cases hodd : kind.tmod 2 = 1
      · have hod : (kind.tmod 2 == 1) = true := by simpa using hodd
        have hk4 : (kind == 4) = false := by
          rw [beq_eq_false_iff_ne]
          rintro rfl
          revert hodd
          decide
        have bz := bobj_free hbo5 k
        have bc5 := bobj_cell hbo5 hk
        have q6 := Q5a.out.set (Nat.le_trans hpbW (Nat.le_refl _)) (fun y hy => by cases hy) (fr_set w5 pb k (.int .u8 (fb.toNat : Int))) (bobj_set hbo5 hk fb)
        have Q6 : Hid (Q1 w0 (w5.setCell ⟨pb, k, none⟩ (.int .u8 (fb.toNat : Int))) p g (5 * i + 2) S1 [(pb, bobj (putB V k fb))]) := q6
        have bc6 : (w5.setCell ⟨pb, k, none⟩ (.int .u8 (fb.toNat : Int))).cell? ⟨pb, k, none⟩ = some (.int .u8 (fb.toNat : Int)) := by
          have := bobj_cell (q6.at (k := pb) (o := bobj (putB V k fb)) (by simp)) hk
          rw [this]
          simp [putB]
        obtain ⟨t1, t2⟩ := HV1.out.set HL1.out HA1.out HG1.out HP1.out fb
        have HT1 : Hid (setS S1 (k : Int) (blk fb) = (0, { S1 with l := A ++ [{ gf with s := blk fb, dirty := true }] })) := t1
        have HV4 : Hid (Vw { S1 with l := A ++ [{ gf with s := blk fb, dirty := true }] } (putB V k fb)) := t2
        clear q6 t1 t2 hodd hbo5
        have cB2 := block_any _ fb rfl (w5.setCell ⟨pb, k, none⟩ (.int .u8 (fb.toNat : Int)))
        go_wp2_with fail
        refine cB2.mono ?_
        rintro e w6 ⟨rfl, hb6⟩
        clear cB2
        have q7 := Q6.out.below hb6
        have cS := q7.setp (by omega) (k : Int) (blk fb)
        rw [HT1.out] at cS
        simp only at cS
        have HL4 : Hid (({ S1 with l := A ++ [{ gf with s := blk fb, dirty := true }] } : St).l = A ++ [{ gf with s := blk fb, dirty := true }]) := rfl
        have HA4 : Hid (∀ f ∈ A, f.pg ≠ k ∧ f.pins = 0) := HA1
        have HG4 : Hid (({ gf with s := blk fb, dirty := true } : Fm).pg = k) := HG1
        have HP4 : Hid (({ gf with s := blk fb, dirty := true } : Fm).pins = 1) := HP1
        generalize ({ gf with s := blk fb, dirty := true } : Fm) = g4 at *
        generalize ({ S1 with l := A ++ [g4] } : St) = S4 at *
        generalize putB V k fb = V4 at *
        clear q7 bc6 bc5 bz HT1 Q6
        go_wp2_with fail
        refine cS.mono ?_
        rintro e w7 ⟨rfl, q7⟩
        clear cS
        have Q4 : Hid (Q1 w0 w7 p g (5 * i + 2 + 1) S4 [(pb, bobj V4)]) := q7
        clear q7
        have c5 := Q4.out.unpin (by omega) (k : Int)
        obtain ⟨u1, u2, u3⟩ := HV4.out.unpin HL4.out HA4.out HG4.out HP4.out
        rw [u1] at c5
        have HV5 : Hid (Vw (unpinS S4 (k : Int)).2 V4) := u2
        have HL5 : Hid (Loose (unpinS S4 (k : Int)).2) := u3
        clear u1 u2 u3
        generalize unpinS S4 (k : Int) = P5 at *
        go_wp2_with fail
        refine c5.mono ?_
        rintro e w5 ⟨rfl, q5⟩
        clear c5
        have d05 := (q5.bel.cell (p := ⟨bl, off + i * 3, none⟩) hbl).trans s0
        have d15 := (q5.bel.cell (p := ⟨bl, off + i * 3 + 1, none⟩) hbl).trans s1
        have Q5 : Hid (Q1 w0 w5 p g (5 * i + 2 + 1 + 1) P5.2 [(pb, bobj V4)]) := q5
        clear q5
        go_wp2_with fail
        go_roundw
        case rel => exact ⟨i + 1, P5.2, V4, by omega, by go_num, ⟨Q5.out.mono (by omega), HV5.out, HL5.out⟩⟩
        case measure => simp [intOf]; omega
      · have hod : (kind.tmod 2 == 1) = false := by simpa using hodd
        have Q4 : Hid (Q1 w0 w5 p g (5 * i + 2 + 1) S1 [(pb, bobj V)]) := Q5a.out.mono (by omega)
        have HV4 : Hid (Vw S1 V) := HV1
        have HL4 : Hid (S1.l = A ++ [gf]) := HL1
        have HA4 : Hid (∀ f ∈ A, f.pg ≠ k ∧ f.pins = 0) := HA1
        have HG4 : Hid (gf.pg = k) := HG1
        have HP4 : Hid (gf.pins = 1) := HP1
        clear hodd hbo5 HV1 HL1 HA1 HG1 HP1 Q5a Q4a
        generalize S1 = S4 at *
        generalize hV4 : V = V4 at *
        have c5 := Q4.out.unpin (by omega) (k : Int)
        obtain ⟨u1, u2, u3⟩ := HV4.out.unpin HL4.out HA4.out HG4.out HP4.out
        rw [u1] at c5
        have HV5 : Hid (Vw (unpinS S4 (k : Int)).2 V4) := u2
        have HL5 : Hid (Loose (unpinS S4 (k : Int)).2) := u3
        clear u1 u2 u3
        generalize unpinS S4 (k : Int) = P5 at *
        go_wp2_with fail
        refine c5.mono ?_
        rintro e w5 ⟨rfl, q5⟩
        clear c5
        have d05 := (q5.bel.cell (p := ⟨bl, off + i * 3, none⟩) hbl).trans s0
        have d15 := (q5.bel.cell (p := ⟨bl, off + i * 3 + 1, none⟩) hbl).trans s1
        have Q5 : Hid (Q1 w0 w5 p g (5 * i + 2 + 1 + 1) P5.2 [(pb, bobj V4)]) := q5
        clear q5
        by_cases hk4 : kind = 4
        · have hk4d : (kind == 4) = true := by simpa using hk4
          have cE := Q5.out.evict (by omega) at_ aB.1 aB.2
          obtain ⟨v6, l6⟩ := HV5.out.evict Q5.out.ok HL5.out at_
          have HV6 : Hid (Vw (evictS P5.2 at_).2 V4) := v6
          have HL6 : Hid (Loose (evictS P5.2 at_).2) := l6
          clear v6 l6 hk4
          generalize evictS P5.2 at_ = P6 at *
          go_wp2_with fail
          refine cE.mono ?_
          rintro e w6 ⟨rfl, q6⟩
          clear cE
          have Q6 : Hid (Q1 w0 w6 p g (5 * i + 2 + 1 + 1 + 1) P6.2 [(pb, bobj V4)]) := q6
          clear q6
          go_wp2_with fail
          go_roundw
          case rel => exact ⟨i + 1, P6.2, V4, by omega, by go_num, ⟨Q6.out.mono (by omega), HV6.out, HL6.out⟩⟩
          case measure => simp [intOf]; omega
        · have hk4d : (kind == 4) = false := by simpa using hk4
          clear hk4
          go_wp2_with fail
          go_roundw
          case rel => exact ⟨i + 1, P5.2, V4, by omega, by go_num, ⟨Q5.out.mono (by omega), HV5.out, HL5.out⟩⟩
          case measure => simp [intOf]; omega
    · obtain ⟨f1, f2, f3, f4, f5⟩ := hre.v.flush hre.q.ok
      have cF := hre.q.flush (by omega)
      rw [f1] at cF
      have HD : Hid (dirtyS (flushS S).2 = []) := f2
      have HH : Hid ((flushS S).2.D.held = []) := f3
      have HSE : Hid (∀ j, j < 12 → (flushS S).2.D.seen j = blk (V j)) := f4
      have HN : Hid ((flushS S).2.D.n = 12) := f5
      clear f1 f2 f3 f4 f5 hre
      generalize hS3 : (flushS S).2 = S3 at *
      clear hS3
      go_wp2_with fail
      all_goals try (exfalso; omega)
      all_goals (
        refine cF.mono ?_
        rintro e w3 ⟨rfl, q3⟩
        clear cF
        have cD := q3.dirty
        rw [HD.out] at cD
        go_wp2_with fail
        refine cD.mono ?_
        rintro e w4 ⟨v4, rfl, r4, hb4⟩
        obtain ⟨a4, c4, rfl, _, _⟩ := r4.len
        clear cD
        have q4 := q3.below hb4
        have cC := q4.crash (by omega)
        clear q3
        go_wp2_with fail
        refine cC.mono ?_
        rintro e w5 ⟨rfl, q5⟩
        clear cC q4
        obtain ⟨e1, e2, e3⟩ := crash_none S3.D HH.out
        have HX : Hid ((S3.D.crashed []).seen = S3.D.seen ∧ (S3.D.crashed []).left = -1 ∧ (S3.D.crashed []).n = S3.D.n) := ⟨e1, e2, e3⟩
        have Q5 : Hid (Q1 w0 w5 p g (5 * i + 66) { S3 with D := S3.D.crashed [] } [(pb, bobj V)]) := q5
        clear q5 e1 e2 e3
        go_wp2_with fail
        go_loopw [14] (fun sj wq => ∃ j : Nat, j ≤ 12 ∧ sj = .int .i64 (j : Int) ∧ Q1 w0 wq p g (5 * i + 66) { S3 with D := S3.D.crashed [] } [(pb, bobj V)]) (fun sj _ => 12 - (intOf sj).toNat)
        case atStart => exact ⟨0, Nat.zero_le _, rfl, Q5.out⟩
        case round =>
          obtain ⟨j, hj, rfl, q6⟩ := hrel
          have Q6 : Hid (Q1 w0 wr p g (5 * i + 66) { S3 with D := S3.D.crashed [] } [(pb, bobj V)]) := q6
          by_cases hjl : j < 12
          · have hjl2 : (j : Int) < 12 := by omega
            have cR := q6.readUp j (by show j < (S3.D.crashed []).n; rw [HX.out.2.2, HN.out]; exact hjl) (by show ¬ (S3.D.crashed []).left = 0; rw [HX.out.2.1]; decide)
            rw [show ({ S3 with D := S3.D.crashed [] } : St).D.seen j = blk (V j) by show (S3.D.crashed []).seen j = _; rw [HX.out.1]; exact HSE.out j hjl] at cR
            clear q6
            go_wp2_with fail
            refine cR.mono ?_
            rintro e w7 ⟨rfl, q7⟩
            clear cR
            have bc := bobj_cell (q7.at (k := pb) (o := bobj V) (by simp)) hjl
            have cB := block_any _ (V j) rfl w7
            have Q7 : Hid (Q1 w0 w7 p g (5 * i + 66) { S3 with D := S3.D.crashed [] } [(pb, bobj V)]) := q7
            clear q7
            go_wp2_with fail
            refine cB.mono ?_
            rintro e w8 ⟨rfl, hb8⟩
            clear cB bc
            go_wp2_with fail
            go_roundw
            case rel => exact ⟨j + 1, by omega, by go_num, Q7.out.below hb8⟩
            case measure => simp [intOf]; omega
          · obtain rfl : j = 12 := by omega
            have cW := wakes_any wr
            have hb9 := q6.bel
            clear q6
            go_wp2_with fail
            refine cW.mono ?_
            rintro e w9 ⟨rfl, hb10⟩
            go_wp2_with fail
            go_ret
            exact ⟨rfl, below2 hb9 hb10⟩)

set_option maxRecDepth 100000 in
theorem poolReads_any {H : Type} {enc : TypeId × Value → H} {base : Nat} {d : DataW H} {ps : List MemPlace} (fr : Int) (v : Value) (W : World) (hfr : -9223372036854775808 ≤ fr ∧ fr ≤ 9223372036854775807) (hv : Value.okWide Try.prog W .any base 22 v) (h : DataW.Trod enc Try.prog W 0 (fun _ => true) true 22 v d ps) :
    Calls Try.prog 3 #[.int .i64 fr, v] W fun e w' => e = .returned (.bool true) ∧ Below W.heap.size W w' := by
  obtain ⟨a, L, c, rfl, h1, h2, h3, h4⟩ := open_steps hv h
  exact poolReads_walk fr a L c W hfr h1 h4 h2 h3
end Go.Proofs.Ytghocbaafdnddaa

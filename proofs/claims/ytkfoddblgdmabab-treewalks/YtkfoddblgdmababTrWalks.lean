/- TreeWalks: the walk. -/
import Derived.Test.YtkfoddblgdmababTrSteps
namespace Go.Proofs.Ytkfoddblgdmabab.tr
open Go.RowKit

theorem bl_snoc (x : List UInt8) : Op.bytesLess x (x ++ [0]) = true := by
  induction x with
  | nil => rfl
  | cons a x ih => simp [Op.bytesLess, ih]
theorem bl_next (y x : List UInt8) (h : Op.bytesLess y x = true) : Op.bytesLess x (y ++ [0]) = false := by
  induction y generalizing x with
  | nil =>
    cases x with
    | nil => cases h
    | cons c x => cases x <;> simp [Op.bytesLess]
  | cons b y ih =>
    cases x with
    | nil => simp [Op.bytesLess] at h
    | cons c x =>
      simp only [Op.bytesLess, Bool.or_eq_true, decide_eq_true_eq, Bool.and_eq_true, beq_iff_eq, List.cons_append, Bool.or_eq_false_iff, decide_eq_false_iff_not, Bool.and_eq_false_imp] at *
      rcases h with h | ⟨rfl, h⟩
      · exact ⟨UInt8.lt_asymm h, fun e => absurd h (by rw [e]; exact UInt8.lt_irrefl _)⟩
      · exact ⟨UInt8.lt_irrefl _, fun _ => ih x h⟩
theorem snoc_list (k : ByteArray) : (k ++ ⟨#[0]⟩ : ByteArray).toList = k.toList ++ [0] := by
  rw [ByteArray.toList_eq, ByteArray.toList_eq]
  simp
theorem ltS_snoc (k : ByteArray) : ltS k (k ++ ⟨#[0]⟩) = true := by
  unfold ltS
  rw [snoc_list]
  exact bl_snoc _
theorem ltS_next {y x : ByteArray} (h : ltS y x = true) : ltS x (y ++ ⟨#[0]⟩) = false := by
  unfold ltS
  rw [snoc_list]
  exact bl_next _ _ h
theorem pos_next {L : List Ent} (hs : Srt L) {i : Nat} {y : Ent} (h : L[i]? = some y) : pos (y.key ++ ⟨#[0]⟩) L = i + 1 := by
  obtain ⟨c1, c2⟩ := cut_in i L y h
  have hm := hs
  rw [c1] at hm
  obtain ⟨h1, h2, _, _⟩ := hm.mid
  have h3 := pos_mid (A := L.take i ++ [y]) (B := L.drop (i + 1)) (k := y.key ++ ⟨#[0]⟩) (Lo.app.2 ⟨fun e he => ltS_trans (h1 e he) (ltS_snoc y.key), Lo.cons.2 ⟨ltS_snoc y.key, Lo.nil _⟩⟩) (fun e he => ltS_next (h2 e (List.mem_of_mem_head? (by rw [he]; rfl))))
  rw [show L.take i ++ [y] ++ L.drop (i + 1) = L by rw [List.append_assoc]; exact c1.symm] at h3
  rw [h3, List.length_append, c2]
  rfl
theorem pos_key {L : List Ent} (hs : Srt L) {i : Nat} {y : Ent} (h : L[i]? = some y) : pos y.key L = i := by
  obtain ⟨c1, c2⟩ := cut_in i L y h
  have hm := hs
  rw [c1] at hm
  have h3 := pos_at (B := L.drop (i + 1)) hm.mid.1 (ltS_irrefl y.key)
  rw [← c1, c2] at h3
  exact h3
theorem pos_first (L : List Ent) : pos ⟨#[]⟩ L = 0 := by
  cases L with
  | nil => rfl
  | cons a L =>
    unfold pos
    rw [List.takeWhile_cons, if_neg (by rw [lt_empty]; simp)]
    rfl
theorem atL_pos {L : List Ent} {k : ByteArray} {i : Nat} (h : pos k L = i) : atL k L = L[i]? := by unfold atL; rw [h]
theorem beL_pos {L : List Ent} {k : ByteArray} {i : Nat} (h : pos k L = i + 1) : beL k L = L[i]? := by unfold beL; rw [h, if_neg (by omega)]; rfl
theorem beL_zero {L : List Ent} {k : ByteArray} (h : pos k L = 0) : beL k L = none := by unfold beL; rw [if_pos h]

set_option maxHeartbeats 25600000 in
set_option maxRecDepth 100000 in
theorem walks_on (a0 : Option Addr) (L : List Sp) (cap : Nat) (W : World) (hL : SlS W a0 L) (hcap : L.length ≤ maxLen) :
    Calls Try.prog 3 #[.slice a0 L.length cap] W fun e w' => e = .returned (.bool true) ∧ Below W.heap.size W w' := by
  have cN := new_any W 3 (by decide) (by decide)
  go_enter Try.func3, Try.ntmps3
  go_wp2_with fail
  refine cN.mono ?_
  rintro e w1 ⟨tb, M, rfl, t1, h1⟩
  have cF := fair_any a0 L cap w1 (hL.kept h1) hcap
  have HT := (show Hid _ from And.intro t1 h1)
  have HL : Hid (SlS W a0 L) := hL
  clear cN t1 h1 hL
  go_wp2_with fail
  refine cF.mono ?_
  rintro e w2 ⟨rfl, hw⟩
  rw [hw]
  clear hw cF w2
  have cW := wakes_any w1
  cases hfr : fairL L
  · go_wp2_with fail
    refine cW.mono ?_
    rintro e w3 ⟨rfl, b3⟩
    clear cW
    go_wp2_with fail
    go_ret
    exact ⟨rfl, below2 HT.out.2 b3⟩
  have HF := (show Hid _ from fair_of hfr)
  have hB0 := Bt.start HT.out.1 HT.out.2
  have hlen2 : L.length ≤ 400 := HF.out.1
  clear hfr HT cW
  go_wp2_with fail
  generalize w1.heap.size = q at *
  generalize w1.alloc (.cells #[.slice none 0 0] 32) = w2 at *
  go_loopw [6] (fun si wr => ∃ (i : Nat) (Lx : List Ent), i ≤ L.length ∧ si = .int .i64 (i : Int) ∧ Hid (Bt W wr tb 3 q Lx Lx)) (fun si _ => L.length - (Go.RowKit.intOf si).toNat)
  case atStart => exact ⟨0, [], Nat.zero_le _, rfl, hB0⟩
  case round =>
    clear hB0
    obtain ⟨i, Lx, hi, rfl, hr⟩ := hrel
    by_cases hlt : i < L.length
    · have hlt2 : (i : Int) < (L.length : Int) := by omega
      have hx : L[i]? = some L[i] := by simp [hlt]
      generalize L[i] = s at hx
      have hks := HF.out.2 s (List.mem_of_getElem? hx)
      obtain ⟨b, off, rfl, hst⟩ := HL.out.step hx
      have HC : Hid (∀ V, Below W.heap.size W V → V.cell? ⟨b, off + i * 3 + 1, none⟩ = some (.string s.key) ∧ V.cell? ⟨b, off + i * 3 + 2, none⟩ = some (.int .i64 s.n)) := fun V hV => ⟨(hst.below hV).c1, (hst.below hV).c2⟩
      have y0 := (hst.below hr.out.bel).c0
      obtain ⟨y1, y2⟩ := HC.out _ hr.out.bel
      clear hst hx
      obtain ⟨kk, key, z⟩ := s
      simp only at y0 y1 y2 hks HC
      by_cases hbig : 1000 < key.size
      · have hbi : (1000 : Int) < (key.size : Int) := by omega
        have cW := wakes_any wr
        go_wp2_with fail
        refine cW.mono ?_
        rintro e w3 ⟨rfl, b3⟩
        clear cW
        go_wp2_with fail
        go_ret
        exact ⟨rfl, (hr.out.below b3).bel⟩
      have hbi : ¬ ((1000 : Int) < (key.size : Int)) := by omega
      by_cases k1 : kk = 1
      · subst k1
        have cP := hr.out.del key
        go_wp2_with fail
        refine cP.mono ?_
        rintro e w4 ⟨rfl, b4, o4⟩
        obtain ⟨v1, v2⟩ := HC.out _ b4.bel
        have cQ := b4.rdel key hr.out.srt
        clear cP b4 o4 y0 y1 y2
        go_wp2_with fail
        refine cQ.mono ?_
        rintro e w5 ⟨rfl, b5, o5⟩
        have HB5 := (show Hid _ from b5)
        clear cQ b5 o5 v1 v2
        go_wp2_with fail
        go_roundw
        case rel => exact ⟨i + 1, _, by omega, by go_num, HB5.out⟩
        case measure => simp [Go.RowKit.intOf]; omega
      have e1k : (kk == 1) = false := by simpa using k1
      clear k1
      have cP := (hr.out.below (below_drew wr)).put key z (by omega)
      have hS := HC.out _ (hr.out.below (below_drew wr)).bel
      go_wp2_with fail
      apply wp_end (R := fun U => Bt W U tb 3 q (putT key z Lx).2.2 Lx)
      case h =>
        go_region_held3 (fun U => U.cell? ⟨b, off + i * 3 + 1, none⟩ = some (.string key) ∧ U.cell? ⟨b, off + i * 3 + 2, none⟩ = some (.int .i64 z)) (first | exact hB | exact hS | go_keep)
          (first | (go_at_call 9; refine cP.mono ?_; rintro e w4 ⟨rfl, b5, o5⟩; have hB := HC.out _ b5.bel))
        all_goals exact EndQ.mk b5
      rintro w4 b5
      have HB4 := (show Hid _ from b5)
      clear cP hS b5
      clear y0 y1 y2
      have cP := (HB4.out.below (below_drew w4)).rput key z hr.out.srt
      have hS := HC.out _ (HB4.out.below (below_drew w4)).bel
      go_wp2_with fail
      apply wp_end (R := fun U => Bt W U tb 3 q (putT key z Lx).2.2 (putT key z Lx).2.2)
      case h =>
        go_region_held3 (fun U => U.cell? ⟨b, off + i * 3 + 1, none⟩ = some (.string key) ∧ U.cell? ⟨b, off + i * 3 + 2, none⟩ = some (.int .i64 z)) (first | exact hB | exact hS | go_keep)
          (first | (go_at_call 10; refine cP.mono ?_; rintro e w5 ⟨rfl, b5, o5⟩; have hB := HC.out _ b5.bel))
        all_goals exact EndQ.mk b5
      rintro w5 b5
      have HB5 := (show Hid _ from b5)
      clear cP hS b5
      go_wp2_with fail
      go_roundw
      case rel => exact ⟨i + 1, _, by omega, by go_num, HB5.out⟩
      case measure => simp [Go.RowKit.intOf]; omega
    · obtain rfl : i = L.length := by omega
      have hsr : Hid (Srt Lx) := hr.out.srt
      have hks : Hid (Ks Lx) := hr.out.ks
      have hl0 := hr.out.len
      go_wp2_with fail
      go_loopw [7, 8] (fun sa si wr => ∃ (i : Nat) (A : ByteArray), i ≤ Lx.length ∧ si = .int .i64 (i : Int) ∧ sa = .string A ∧ Hid (pos A Lx = i) ∧ Hid (Bt W wr tb 3 q Lx Lx)) (fun _ si _ => Lx.length - (Go.RowKit.intOf si).toNat)
      case atStart => exact ⟨0, ⟨#[]⟩, Nat.zero_le _, rfl, rfl, pos_first Lx, hr.out⟩
      case round =>
        clear hr hlt hlen2
        obtain ⟨i, A, hi, rfl, rfl, hp, hr⟩ := hrel
        obtain ⟨M3, v3, t3, r3⟩ := hr.out.ex
        obtain ⟨va, vc, ev3, _, _⟩ := r3.row.len
        have z0 : wr.cell? ⟨q, 0, none⟩ = some (.slice va Lx.length vc) := by rw [(cell_obj (j := 0) r3.top).1, ← ev3]; rfl
        clear t3 r3 ev3
        have cA := hr.out.at A
        rw [nearV_eq, atL_pos hp.out] at cA
        by_cases hlt : i < Lx.length
        · have hlt2 : (i : Int) < (Lx.length : Int) := by omega
          have hx : Lx[i]? = some Lx[i] := by simp [hlt]
          generalize Lx[i] = y at hx
          rw [hx] at cA
          have hyk := hks.out y (List.mem_of_getElem? hx)
          have hcat : ¬ (9223372036854775807 : Int) < (y.key.size : Int) + 1 := by omega
          have HP : Hid (pos (y.key ++ ⟨#[0]⟩) Lx = i + 1) := pos_next hsr.out hx
          simp only [oK, oN, Option.isSome] at cA
          go_wp2_with fail
          refine cA.mono ?_
          rintro e w4 ⟨rfl, b4, h4⟩
          obtain ⟨M4, v4, t4, r4⟩ := b4.ex
          obtain ⟨ra, rc, ev, _, _, _, s0⟩ := r4.row.cell gE_len hx
          have c0 : w4.cell? ⟨q, 0, none⟩ = some (.slice (some ⟨ra, 0, none⟩) Lx.length rc) := by rw [(cell_obj (j := 0) r4.top).1, ← ev]; rfl
          have r0 := (s0 0 _ rfl).1
          have r1 := (s0 1 _ rfl).1
          rw [Nat.add_zero] at r0
          have HB4 := (show Hid _ from b4)
          clear s0 t4 r4 ev b4
          have n1 : (!(y.key.toList == y.key.toList)) = false := by simp
          clear cA hx h4 z0
          go_wp2_with fail
          go_roundw
          case rel => exact ⟨i + 1, y.key ++ ⟨#[0]⟩, by omega, by go_num, rfl, HP, HB4.out⟩
          case measure => simp [Go.RowKit.intOf]; omega
        · obtain rfl : i = Lx.length := by omega
          rw [List.getElem?_eq_none (Nat.le_refl _)] at cA
          simp only [oK, oN, Option.isSome] at cA
          go_wp2_with fail
          refine cA.mono ?_
          rintro e w4 ⟨rfl, b4, h4⟩
          have hr4 := (show Hid _ from b4)
          obtain ⟨M3, v3, t3, r3⟩ := b4.ex
          obtain ⟨va, vc, ev3, _, _⟩ := r3.row.len
          have z0 : w4.cell? ⟨q, 0, none⟩ = some (.slice va Lx.length vc) := by rw [(cell_obj (j := 0) r3.top).1, ← ev3]; rfl
          clear t3 r3 ev3 cA b4 h4
          go_wp2_with fail
          go_loopw [7, 15] (fun sa si wr => ∃ (j : Nat) (m : Int) (A : ByteArray), j ≤ Lx.length ∧ si = .int .i64 m ∧ m + 1 = (j : Int) ∧ sa = .string A ∧ Hid (pos A Lx = j) ∧ Hid (Bt W wr tb 3 q Lx Lx)) (fun _ si _ => (Go.RowKit.intOf si + 1).toNat)
          case atStart => exact ⟨Lx.length, _, A, Nat.le_refl _, rfl, by omega, rfl, hp.out, hr4.out⟩
          case round =>
            clear hr hr4 hp z0
            obtain ⟨j, m, A, hj, rfl, hm, rfl, hp, hr⟩ := hrel
            have cA := hr.out.before A
            rw [nearV_eq] at cA
            by_cases hj0 : j = 0
            · subst hj0
              obtain rfl : m = -1 := by omega
              rw [beL_zero hp.out] at cA
              simp only [oK, oN, Option.isSome] at cA
              go_wp2_with fail
              refine cA.mono ?_
              rintro e w4 ⟨rfl, b4, h4⟩
              have hr4 := (show Hid _ from b4)
              have cW := wakes_any w4
              clear cA b4 h4
              go_wp2_with fail
              refine cW.mono ?_
              rintro e w5 ⟨rfl, h5⟩
              go_wp2_with fail
              go_ret
              exact ⟨rfl, (hr4.out.below h5).bel⟩
            · obtain ⟨i, rfl⟩ : ∃ i, j = i + 1 := ⟨j - 1, by omega⟩
              obtain rfl : m = (i : Int) := by omega
              have hge : (0 : Int) ≤ (i : Int) := by omega
              have hlt : i < Lx.length := by omega
              have hlt2 : (i : Int) < (Lx.length : Int) := by omega
              have hx : Lx[i]? = some Lx[i] := by simp [hlt]
              generalize Lx[i] = y at hx
              rw [beL_pos hp.out, hx] at cA
              have HP : Hid (pos y.key Lx = i) := pos_key hsr.out hx
              simp only [oK, oN, Option.isSome] at cA
              go_wp2_with fail
              refine cA.mono ?_
              rintro e w4 ⟨rfl, b4, h4⟩
              obtain ⟨M4, v4, t4, r4⟩ := b4.ex
              obtain ⟨ra, rc, ev, _, _, _, s0⟩ := r4.row.cell gE_len hx
              have c0 : w4.cell? ⟨q, 0, none⟩ = some (.slice (some ⟨ra, 0, none⟩) Lx.length rc) := by rw [(cell_obj (j := 0) r4.top).1, ← ev]; rfl
              have r0 := (s0 0 _ rfl).1
              have r1 := (s0 1 _ rfl).1
              rw [Nat.add_zero] at r0
              have HB4 := (show Hid _ from b4)
              clear s0 t4 r4 ev b4
              have n1 : (!(y.key.toList == y.key.toList)) = false := by simp
              clear cA hx h4 hm hj0
              go_wp2_with fail
              go_roundw
              case rel => exact ⟨i, (i : Int) - 1, y.key, by omega, rfl, by omega, rfl, HP, HB4.out⟩
              case measure => simp [Go.RowKit.intOf]

set_option maxRecDepth 100000 in
theorem treeWalks_on (v0 : Value) (W : World) {H : Type} {enc : TypeId × Value → H} {base : Nat} {d0 : DataW H} {p0 : List MemPlace} (hv0 : Value.okWide Try.prog W .any base 22 v0) (h0 : DataW.Trod enc Try.prog W 0 (fun _ => true) true 22 v0 d0 p0) :
    Calls Try.prog 3 #[v0] W fun e w' => e = .returned (.bool true) ∧ Below W.heap.size W w' := by
  obtain ⟨a, L, cap, rfl, hL, hc, hm, _⟩ := open_steps hv0 h0
  exact walks_on a L cap W hL (Nat.le_trans hc hm)

end Go.Proofs.Ytkfoddblgdmabab.tr

/- PageOne: the walk. -/
import Derived.Test.YtfgblmbocchddaaPOneMath
namespace Go.Proofs.Ytfgblmbocchddaa
open Go.RowKit

theorem row_le {l : List Sl} (hF : Fine l) {i : Nat} {s : Sl} (h : l[i]? = some s) : (rowOf s).size ≤ 400 := by
  cases s with
  | none => exact Nat.zero_le _
  | some r => exact hF.rows r (List.mem_of_getElem? h)

theorem pg_eq {a b : List Sl} (ha : Fine a) (hb : Fine b) (R : Bool) (hR : R = true ↔ a = b) : ((pg a).toList == (pg b).toList) = R := by
  cases R with
  | true => rw [hR.1 rfl]; simp
  | false =>
    apply bytes_ne
    intro e
    exact absurd (hR.2 (pg_inj ha hb e)) (by decide)

set_option maxHeartbeats 6400000 in
set_option maxRecDepth 100000 in
theorem pageOne_walk (a : Option Addr) (L : List St) (c : Nat) (a' : Option Addr) (M : List St) (c' : Nat) (w : World) (hL : SlG w a 3 St.cells L) (hc : L.length ≤ c) (hcm : c ≤ maxLen) (hok : ∀ s ∈ L, s.ok) (hM : SlG w a' 3 St.cells M) (hc' : M.length ≤ c') (hcm' : c' ≤ maxLen) (hok' : ∀ s ∈ M, s.ok) :
    Calls Try.prog 4 #[.slice a L.length c, .slice a' M.length c'] w fun e w' => e = .returned (.bool true) ∧ Below w.heap.size w w' := by
  have hcm2 : (L.length : Int) ≤ 9223372036854775807 := by unfold maxLen at hcm; omega
  have hcm3 : (M.length : Int) ≤ 9223372036854775807 := by unfold maxLen at hcm'; omega
  by_cases hf : fairL L
  · have cFr := fair_any a L c w hL hc hcm true ⟨fun _ => hf, fun _ => rfl⟩
    by_cases hf' : fairL M
    · have cFr' := fun w1 (b1 : Below w.heap.size w w1) => fair_any a' M c' w1 (hM.kept b1) hc' hcm' true ⟨fun _ => hf', fun _ => rfl⟩
      have hlen : L.length ≤ 200 := hf.2
      have hrs : ∀ s ∈ L, s.row.size ≤ 3000 := hf.1
      have hlen' : M.length ≤ 200 := hf'.2
      have hrs' : ∀ s ∈ M, s.row.size ≤ 3000 := hf'.1
      clear hf hf' hcm hcm'
      go_enter Try.func4, Try.ntmps4
      go_wp2_with fail
      refine cFr.mono ?_
      rintro e w1 ⟨rfl, b1⟩
      go_wp2_with fail
      refine (cFr' _ b1).mono ?_
      rintro e w2 ⟨rfl, b2⟩
      have b02 := below2 b1 b2
      go_wp2_with fail
      refine (empty_any _).mono ?_
      rintro e w3 ⟨rfl, b3⟩
      have b03 := below2 b02 b3
      have hq := (Pgr.new w3).mono b03.size
      have b03a := below2 b03 (below_alloc1 w3 (.cells #[.slice none 0 0] 29))
      obtain ⟨xb, hxb⟩ : ∃ xb, xb = w3.heap.size := ⟨_, rfl⟩
      rw [← hxb] at hq
      have HXB : Hid (xb = w3.heap.size) := hxb
      clear cFr cFr' b1 b2 b3 b02 b03 hxb
      go_wp2_with fail
      refine (empty_any _).mono ?_
      rintro e w4 ⟨rfl, b4⟩
      have b04 := below2 b03a b4
      have ht0 := Two.new (hq.below b4) b04.size
      have b05 := below2 b04 (below_alloc1 w4 (.cells #[.slice none 0 0] 29))
      obtain ⟨yb, hyb⟩ : ∃ yb, yb = w4.heap.size := ⟨_, rfl⟩
      rw [← hyb] at ht0
      have HYB : Hid (yb = w4.heap.size) := hyb
      clear hq b4 b04 b03a hyb
      go_wp2_with fail
      rw [← HXB.out, ← HYB.out]
      clear HXB HYB
      go_loopw [5, 9, 10] (fun sp sok si wr => ∃ (i : Nat) (la : List Sl) (xv : Value), i ≤ L.length ∧ si = .int .i64 (i : Int) ∧ sok = .bool true ∧ sp = .string (pg la) ∧ Fine la ∧ Two w.heap.size wr xb xv la yb (.slice none 0 0) [] ∧ Below w.heap.size w wr) (fun _ _ si _ => L.length - (intOf si).toNat)
      case atStart => exact ⟨0, [], _, Nat.zero_le _, rfl, rfl, rfl, fine_nil, ht0, b05⟩
      case round =>
        obtain ⟨i, la, xv, hi, rfl, rfl, rfl, hFa, ht, hb⟩ := hrel
        clear ht0 b05
        by_cases hlt : i < L.length
        · have hlt2 : (i : Int) < (L.length : Int) := by omega
          have hx : L[i]? = some L[i] := by simp [hlt]
          generalize L[i] = x at hx
          have hmem := List.mem_of_getElem? hx
          have hok := hok x hmem
          have hr3 : x.row.size ≤ 1000000 := by have := hrs x hmem; omega
          rcases hL with hL | ⟨lb, lo, rfl, hbl, hrd⟩
          · rw [hL] at hlt; simp at hlt
          have k0 : wr.cell? ⟨lb, lo + i * 3, none⟩ = some (.int .i64 x.kind) := (hb.cell (p := ⟨lb, lo + i * 3, none⟩) hbl).trans (hrd i x hx 0 _ rfl)
          have k1 : wr.cell? ⟨lb, lo + i * 3 + 1, none⟩ = some (.int .i64 x.slot) := (hb.cell (p := ⟨lb, lo + i * 3 + 1, none⟩) hbl).trans (hrd i x hx 1 _ rfl)
          have k2 : wr.cell? ⟨lb, lo + i * 3 + 2, none⟩ = some (.string x.row) := (hb.cell (p := ⟨lb, lo + i * 3 + 2, none⟩) hbl).trans (hrd i x hx 2 _ rfl)
          obtain ⟨l', hl'⟩ : ∃ l', stepN la x = l' := ⟨_, rfl⟩
          have hF' : Fine l' := by rw [← hl']; exact step_fine hFa x
          have cP := play_any ht.x hb.size hFa x hok.sB hr3 l' hl'
          clear hrd hrs hmem hx hl' hrs'
          go_wp2_with fail
          refine cP.mono ?_
          rintro e w5 ⟨rfl, z⟩
          have b5 := PTo.below ht.x hb hb.size z
          obtain ⟨xv', t5⟩ := ht.step z
          clear cP z
          go_wp2_with fail
          go_roundw
          case rel => exact ⟨i + 1, l', xv', by omega, by go_num, rfl, rfl, hF', t5, b5⟩
          case measure => simp [intOf]; omega
        · obtain rfl : i = L.length := by omega
          go_wp2_with fail
          go_loopw [7, 9, 11] (fun sp sok si wr => ∃ (i : Nat) (lb : List Sl) (yv : Value), i ≤ M.length ∧ si = .int .i64 (i : Int) ∧ sok = .bool true ∧ sp = .string (pg lb) ∧ Fine lb ∧ Two w.heap.size wr xb xv la yb yv lb ∧ Below w.heap.size w wr) (fun _ _ si _ => M.length - (intOf si).toNat)
          case atStart => exact ⟨0, [], _, Nat.zero_le _, rfl, rfl, rfl, fine_nil, ht, hb⟩
          case round =>
            clear hb ht
            obtain ⟨i, lb, yv, hi, rfl, rfl, rfl, hFb, ht, hb⟩ := hrel
            by_cases hlt : i < M.length
            · have hlt2 : (i : Int) < (M.length : Int) := by omega
              have hx : M[i]? = some M[i] := by simp [hlt]
              generalize M[i] = x at hx
              have hmem := List.mem_of_getElem? hx
              have hok := hok' x hmem
              have hr3 : x.row.size ≤ 1000000 := by have := hrs' x hmem; omega
              rcases hM with hM | ⟨mb, mo, rfl, hbl, hrd⟩
              · rw [hM] at hlt; simp at hlt
              have k0 : wr.cell? ⟨mb, mo + i * 3, none⟩ = some (.int .i64 x.kind) := (hb.cell (p := ⟨mb, mo + i * 3, none⟩) hbl).trans (hrd i x hx 0 _ rfl)
              have k1 : wr.cell? ⟨mb, mo + i * 3 + 1, none⟩ = some (.int .i64 x.slot) := (hb.cell (p := ⟨mb, mo + i * 3 + 1, none⟩) hbl).trans (hrd i x hx 1 _ rfl)
              have k2 : wr.cell? ⟨mb, mo + i * 3 + 2, none⟩ = some (.string x.row) := (hb.cell (p := ⟨mb, mo + i * 3 + 2, none⟩) hbl).trans (hrd i x hx 2 _ rfl)
              obtain ⟨l', hl'⟩ : ∃ l', stepN lb x = l' := ⟨_, rfl⟩
              have hF' : Fine l' := by rw [← hl']; exact step_fine hFb x
              have cP := play_any ht.y hb.size hFb x hok.sB hr3 l' hl'
              clear hrd hrs hmem hx hl' hrs'
              go_wp2_with fail
              refine cP.mono ?_
              rintro e w5 ⟨rfl, z⟩
              have b5 := PTo.below ht.y hb hb.size z
              obtain ⟨yv', t5⟩ := ht.swap.step z
              clear cP z
              go_wp2_with fail
              go_roundw
              case rel => exact ⟨i + 1, l', yv', by omega, by go_num, rfl, rfl, hF', t5.swap, b5⟩
              case measure => simp [intOf]; omega
            · obtain rfl : i = M.length := by omega
              obtain ⟨R, hR⟩ : ∃ R : Bool, R = true ↔ la = lb := ⟨decide (la = lb), by simp⟩
              have hla : la.length ≤ 127 := few hFa.room
              have hlb : lb.length ≤ 127 := few hFb.room
              have hcmp := pg_eq hFa hFb R hR
              have cS := rsame_any ht.x ht.y (by omega) (by omega) R hR
              have hRR : (R != R) = false := by simp
              clear hR hrs hrs' hL hM hok hok' hlt hi
              generalize pg lb = Pb at *
              go_wp2_with fail
              refine cS.mono ?_
              rintro e w5 ⟨rfl, b5⟩
              have ht5 := ht.below b5
              have hb5 := below2 hb b5
              clear cS hcmp b5 hb ht
              have ht := ht5
              obtain ⟨n, hn⟩ : ∃ n, n = la.length := ⟨_, rfl⟩
              have HLN : Hid (n = la.length) := hn
              rcases slots_last hFa with ⟨he, hs0⟩ | ⟨A, hsA, hpos⟩
              · have cSl := rslots_any ht.x (by omega) [] hs0
                have hn0 : n = 0 := by rw [hn, he]; rfl
                clear hn he hs0 ht5
                go_wp2_with fail
                refine cSl.mono ?_
                rintro e w4 ⟨v4, rfl, r4, b4⟩
                have b04 := below2 hb5 b4
                obtain ⟨a4, c4, hv4, _⟩ := r4.len
                rw [List.length_nil] at hv4
                subst hv4
                clear cSl
                go_wp2_with fail
                refine (empty_any _).mono ?_
                rintro e w5 ⟨rfl, b5⟩
                have b05 := below2 b04 b5
                have t6 := Two.new (ht.x.below (below2 b4 b5)) b05.size
                have b06 := below2 b05 (below_alloc1 w5 (.cells #[.slice none 0 0] 29))
                obtain ⟨zb, hzb⟩ : ∃ zb, zb = w5.heap.size := ⟨_, rfl⟩
                rw [← hzb] at t6
                have HZB : Hid (zb = w5.heap.size) := hzb
                clear ht r4 b4 b5 b05 b04
                go_wp2_with fail
                rw [← HZB.out]
                clear hzb HZB
                go_loopw [9, 14, 16] (fun sok sr si wr => ∃ (i : Nat) (zv : Value), i ≤ n ∧ si = .int .i64 (i : Int) ∧ sok = .bool true ∧ sr = .string (pg (mz la i)) ∧ Two w.heap.size wr xb xv la zb zv (mz la i) ∧ Below w.heap.size w wr) (fun _ _ si _ => n - (intOf si).toNat)
                case atStart => exact ⟨0, _, Nat.zero_le _, rfl, rfl, rfl, t6, b06⟩
                case round =>
                  obtain ⟨i, zv, hi, rfl, rfl, rfl, ht, hb⟩ := hrel
                  clear t6 b06
                  by_cases hlt : i < n
                  · omega
                  · have hin : i = n := by omega
                    have hlt2 : ¬ (i : Int) < 0 := by omega
                    have t0 : Two w.heap.size wr xb xv la zb zv (lz la 0) := by
                      rw [lz_zero, ← HLN.out, ← hin]
                      exact ht
                    have HPG : Hid (pg (mz la i) = pg (lz la 0)) := by show _ = _; rw [lz_zero, ← HLN.out, ← hin]
                    clear ht hin hlt hi
                    go_wp2_with fail
                    rw [HPG.out]
                    clear HPG
                    go_loopw [9, 14, 19] (fun sok sr si wr => ∃ (i : Nat) (zv : Value), i ≤ n ∧ si = .int .i64 (i : Int) ∧ sok = .bool true ∧ sr = .string (pg (lz la i)) ∧ Two w.heap.size wr xb xv la zb zv (lz la i) ∧ Below w.heap.size w wr) (fun _ _ si _ => n - (intOf si).toNat)
                    case atStart => exact ⟨0, _, Nat.zero_le _, rfl, rfl, rfl, t0, hb⟩
                    case round =>
                      clear hb t0 hlt2
                      obtain ⟨i, zv, hi, rfl, rfl, rfl, ht, hb⟩ := hrel
                      by_cases hlt : i < n
                      · omega
                      · have hin : i = n := by omega
                        have hlt2 : ¬ (i : Int) < 0 := by omega
                        have HPG : Hid (pg (lz la i) = pg la) := by show _ = _; rw [hin, HLN.out, lz_end]
                        clear ht hin hlt hi
                        have cW := wakes_any wr
                        rw [HPG.out]
                        clear HPG
                        generalize pg la = P at *
                        go_wp2_with fail
                        refine cW.mono ?_
                        rintro e w8 ⟨rfl, b8⟩
                        go_wp2_with fail
                        go_ret
                        exact ⟨rfl, below2 hb b8⟩
              · obtain ⟨y, hy⟩ : ∃ y : Int, y = ((la.length - 1 : Nat) : Int) := ⟨_, rfl⟩
                rw [← hy] at hsA
                have hyn : y + 1 = (n : Int) := by omega
                have cSl := rslots_any ht.x (by omega) (A ++ [y]) hsA
                have hAl : A.length + 1 ≤ 127 := by have := slotsF_len la 0; rw [hsA] at this; simp at this; omega
                obtain ⟨N, hN⟩ : ∃ N, N = A ++ [y] := ⟨_, rfl⟩
                rw [← hN] at cSl
                have hNl : N.length = A.length + 1 := by rw [hN]; simp
                have hNy : N[A.length]? = some y := by rw [hN]; simp
                have hNi : (N.length : Int) - 1 = (A.length : Int) := by omega
                have hNp : (0 : Int) < (N.length : Int) := by omega
                have hNk : (A.length : Int) < (N.length : Int) := by omega
                have hn127 : n ≤ 127 := by omega
                have hyr : 0 ≤ y ∧ y ≤ 127 := by omega
                clear hn hsA hpos hy hN ht5
                go_wp2_with fail
                refine cSl.mono ?_
                rintro e w4 ⟨v4, rfl, r4, b4⟩
                have b04 := below2 hb5 b4
                obtain ⟨b, c4, hv4, hc4, _, _, q4⟩ := r4.cell hNy
                subst hv4
                have hNl2 : A.length < N.length := by omega
                clear cSl hNl hNy
                generalize A.length = m at *
                go_wp2_with fail
                refine (empty_any _).mono ?_
                rintro e w5 ⟨rfl, b5⟩
                have b05 := below2 b04 b5
                have t6 := Two.new (ht.x.below (below2 b4 b5)) b05.size
                have b06 := below2 b05 (below_alloc1 w5 (.cells #[.slice none 0 0] 29))
                obtain ⟨zb, hzb⟩ : ∃ zb, zb = w5.heap.size := ⟨_, rfl⟩
                rw [← hzb] at t6
                have HZB : Hid (zb = w5.heap.size) := hzb
                clear ht r4 b4 b5 b05 b04
                go_wp2_with fail
                rw [← HZB.out]
                clear hzb HZB
                go_loopw [9, 14, 16] (fun sok sr si wr => ∃ (i : Nat) (zv : Value), i ≤ n ∧ si = .int .i64 (i : Int) ∧ sok = .bool true ∧ sr = .string (pg (mz la i)) ∧ Two w.heap.size wr xb xv la zb zv (mz la i) ∧ Below w.heap.size w wr) (fun _ _ si _ => n - (intOf si).toNat)
                case atStart => exact ⟨0, _, Nat.zero_le _, rfl, rfl, rfl, t6, b06⟩
                case round =>
                  obtain ⟨i, zv, hi, rfl, rfl, rfl, ht, hb⟩ := hrel
                  clear t6 b06
                  by_cases hlt : i < n
                  · have hlt2 : (i : Int) < (n : Int) := by omega
                    have hil : i < la.length := by have := HLN.out; omega
                    have hs : la[i]? = some la[i] := by simp [hil]
                    generalize la[i] = s at hs
                    have hra : rowAt la (i : Int) = s := by unfold rowAt; rw [if_pos (by omega), Int.toNat_natCast, hs]; rfl
                    have cG := rget_any ht.x (by omega) (i : Int) ⟨by omega, by omega⟩
                    rw [hra] at cG
                    have cP := play_0 ht.y hb.size (mz_fine hFa i) 0 (rowOf s) ⟨by decide, by decide⟩ (by have := row_le hFa hs; omega)
                    rw [mz_step hFa i s hs] at cP
                    generalize delE la (i : Int) = E at *
                    generalize rowOf s = S at *
                    clear hra hs hil
                    go_wp2_with fail
                    refine cG.mono ?_
                    rintro e w6 ⟨rfl, e6⟩
                    rw [e6]
                    clear e6 cG
                    go_wp2_with fail
                    refine cP.mono ?_
                    rintro e w7 ⟨rfl, z⟩
                    have b7 := PTo.below ht.y hb hb.size z
                    obtain ⟨zv', t7⟩ := ht.swap.step z
                    clear cP z
                    go_wp2_with fail
                    go_roundw
                    case rel => exact ⟨i + 1, zv', by omega, by go_num, rfl, rfl, t7.swap, b7⟩
                    case measure => simp [intOf]; omega
                  · have hin : i = n := by omega
                    have hlt2 : ¬ (i : Int) < (n : Int) := by omega
                    have t0 : Two w.heap.size wr xb xv la zb zv (lz la 0) := by
                      rw [lz_zero, ← HLN.out, ← hin]
                      exact ht
                    have HPG : Hid (pg (mz la i) = pg (lz la 0)) := by show _ = _; rw [lz_zero, ← HLN.out, ← hin]
                    clear ht hin hlt hi
                    go_wp2_with fail
                    rw [HPG.out]
                    clear HPG
                    go_loopw [9, 14, 19] (fun sok sr si wr => ∃ (i : Nat) (zv : Value), i ≤ n ∧ si = .int .i64 (i : Int) ∧ sok = .bool true ∧ sr = .string (pg (lz la i)) ∧ Two w.heap.size wr xb xv la zb zv (lz la i) ∧ Below w.heap.size w wr) (fun _ _ si _ => n - (intOf si).toNat)
                    case atStart => exact ⟨0, _, Nat.zero_le _, rfl, rfl, rfl, t0, hb⟩
                    case round =>
                      clear hb t0 hlt2
                      obtain ⟨i, zv, hi, rfl, rfl, rfl, ht, hb⟩ := hrel
                      by_cases hlt : i < n
                      · have hlt2 : (i : Int) < (n : Int) := by omega
                        have hil : i < la.length := by have := HLN.out; omega
                        have hs : la[i]? = some la[i] := by simp [hil]
                        generalize la[i] = s at hs
                        have hra : rowAt la (i : Int) = s := by unfold rowAt; rw [if_pos (by omega), Int.toNat_natCast, hs]; rfl
                        have cG := rget_any ht.x (by omega) (i : Int) ⟨by omega, by omega⟩
                        cases s with
                        | none =>
                          have hE : delE la (i : Int) = 60 := by unfold delE; rw [hra]
                          rw [hE, hra] at cG
                          have cP := play_2 ht.y hb.size (lz_fine hFa i) (i : Int) ⟨#[]⟩ ⟨by omega, by omega⟩ (Nat.zero_le _)
                          rw [lz_none hFa i hs] at cP
                          generalize rowOf none = S at *
                          clear hra hs hil hE
                          go_wp2_with fail
                          refine cG.mono ?_
                          rintro e w6 ⟨rfl, e6⟩
                          rw [e6]
                          clear e6 cG
                          go_wp2_with fail
                          refine cP.mono ?_
                          rintro e w7 ⟨rfl, z⟩
                          have b7 := PTo.below ht.y hb hb.size z
                          obtain ⟨zv', t7⟩ := ht.swap.step z
                          clear cP z
                          go_wp2_with fail
                          go_roundw
                          case rel => exact ⟨i + 1, zv', by omega, by go_num, rfl, rfl, t7.swap, b7⟩
                          case measure => simp [intOf]; omega
                        | some r =>
                          have hE : delE la (i : Int) = 0 := by unfold delE; rw [hra]
                          rw [hE, hra] at cG
                          have HLZ : Hid (lz la i = lz la (i + 1)) := (lz_some la i r hs).symm
                          generalize rowOf (some r) = S at *
                          clear hra hs hil hE
                          go_wp2_with fail
                          refine cG.mono ?_
                          rintro e w6 ⟨rfl, e6⟩
                          rw [e6]
                          clear e6 cG
                          go_wp2_with fail
                          go_roundw
                          case rel => exact ⟨i + 1, zv, by omega, by go_num, rfl, by rw [HLZ.out], by rw [← HLZ.out]; exact ht, hb⟩
                          case measure => simp [intOf]; omega
                      · have hin : i = n := by omega
                        have hlt2 : ¬ (i : Int) < (n : Int) := by omega
                        have HPG : Hid (pg (lz la i) = pg la) := by show _ = _; rw [hin, HLN.out, lz_end]
                        clear ht hin hlt hi
                        have cW := wakes_any wr
                        rw [HPG.out]
                        clear HPG
                        generalize pg la = P at *
                        go_wp2_with fail
                        refine cW.mono ?_
                        rintro e w8 ⟨rfl, b8⟩
                        go_wp2_with fail
                        go_ret
                        exact ⟨rfl, below2 hb b8⟩
    · have cFr' := fun w1 (b1 : Below w.heap.size w w1) => fair_any a' M c' w1 (hM.kept b1) hc' hcm' false ⟨(fun h => by cases h), (fun h => absurd h hf')⟩
      clear hf hf'
      go_enter Try.func4, Try.ntmps4
      go_wp2_with fail
      refine cFr.mono ?_
      rintro e w1 ⟨rfl, b1⟩
      go_wp2_with fail
      refine (cFr' _ b1).mono ?_
      rintro e w2 ⟨rfl, b2⟩
      have b02 := below2 b1 b2
      go_wp2_with fail
      refine (wakes_any _).mono ?_
      rintro e w3 ⟨rfl, b3⟩
      go_wp2_with fail
      go_ret
      exact ⟨rfl, below2 b02 b3⟩
  · have cFr := fair_any a L c w hL hc hcm false ⟨(fun h => by cases h), (fun h => absurd h hf)⟩
    clear hf
    go_enter Try.func4, Try.ntmps4
    go_wp2_with fail
    refine cFr.mono ?_
    rintro e w1 ⟨rfl, b1⟩
    go_wp2_with fail
    refine (wakes_any _).mono ?_
    rintro e w2 ⟨rfl, b2⟩
    go_wp2_with fail
    go_ret
    exact ⟨rfl, below2 b1 b2⟩

section
open Go.ChangeShapes Go.WideShapes Go.ChangeAt Go.Deep
theorem pageOne_any {H : Type} {enc : TypeId × Value → H} {base : Nat} {d d' : DataW H} {ps ps' : List MemPlace} (v u : Value) (W : World) (hv : Value.okWide Try.prog W .any base 22 v) (h : DataW.Trod enc Try.prog W 0 (fun _ => true) true 22 v d ps) (hu : Value.okWide Try.prog W .any base 22 u) (h' : DataW.Trod enc Try.prog W 0 (fun _ => true) true 22 u d' ps') :
    Calls Try.prog 4 #[v, u] W fun e w' => e = .returned (.bool true) ∧ Below W.heap.size W w' := by
  obtain ⟨a, L, c, rfl, h1, h2, h3, h4⟩ := open_steps hv h
  obtain ⟨a', M, c', rfl, k1, k2, k3, k4⟩ := open_steps hu h'
  exact pageOne_walk a L c a' M c' W h1 h2 h3 h4 k1 k2 k3 k4
end

end Go.Proofs.Ytfgblmbocchddaa

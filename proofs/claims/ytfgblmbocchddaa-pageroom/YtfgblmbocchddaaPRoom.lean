/- PageRoom: the walk. -/
import Derived.Test.YtfgblmbocchddaaPPlay
namespace Go.Proofs.Ytfgblmbocchddaa
open Go.RowKit

theorem ins_err {l : List Sl} (hF : Fine l) (row : ByteArray) (hr : row.size ≤ 1000000) (E : Int) (hE : insE l row = E) (h0 : E ≠ 0) (w : World) : Calls Try.prog 17 #[.string (pg l), .string row] w fun e w' => e = .returned (.tuple #[.string ⟨#[]⟩, .int .i64 0, .int .i64 E]) ∧ Below w.heap.size w w' :=
  ins_any (pg l) l row w (by rw [pg_size hF]; omega) (rd_pg hF) hF hr _ _ _ (by show _ = _; unfold insR; rw [hE, if_neg h0])
theorem ins_ok {l : List Sl} (hF : Fine l) (row : ByteArray) (hr : row.size ≤ 1000000) (hE : insE l row = 0) (w : World) : Calls Try.prog 17 #[.string (pg l), .string row] w fun e w' => e = .returned (.tuple #[.string (pg (insL l row)), .int .i64 (first l : Int), .int .i64 0]) ∧ Below w.heap.size w w' :=
  ins_any (pg l) l row w (by rw [pg_size hF]; omega) (rd_pg hF) hF hr _ _ _ (by show _ = _; unfold insR; rw [if_pos hE])

/-- What Free tells, and what Insert then tells. -/
theorem room_cases (l : List Sl) : (freeN l = -1 ∧ insE l ⟨#[]⟩ = 50) ∨ ∃ n : Nat, freeN l = (n : Int) ∧ n ≤ 400 ∧ insE l (ba (List.replicate n 0)) = 0 ∧ ((n < 400 ∧ insE l (ba (List.replicate (n + 1) 0)) = 50) ∨ (n = 400 ∧ insE l (ba (List.replicate (n + 1) 0)) = 2)) := by
  have hz : ∀ n, (ba (List.replicate n (0 : UInt8))).size = n := fun n => by rw [ba_size, List.length_replicate]
  unfold freeN insE
  generalize room (withF l) = R
  by_cases h0 : R < 0
  · refine Or.inl ⟨by omega, ?_⟩
    have e : (ByteArray.mk #[]).size = 0 := rfl
    rw [e, if_neg (by omega), if_pos (by omega)]
  · refine Or.inr ⟨(min R 400).toNat, by omega, by omega, ?_, ?_⟩
    · rw [hz, if_neg (by omega), if_neg (by omega)]
    · by_cases h4 : R < 400
      · refine Or.inl ⟨by omega, ?_⟩
        rw [hz, if_neg (by omega), if_pos (by omega)]
      · refine Or.inr ⟨by omega, ?_⟩
        rw [hz, if_pos (by omega)]

set_option maxHeartbeats 3200000 in
set_option maxRecDepth 100000 in
theorem pageRoom_walk (a : Option Addr) (L : List St) (c : Nat) (w : World) (hL : SlG w a 3 St.cells L) (hc : L.length ≤ c) (hcm : c ≤ maxLen) (hok : ∀ s ∈ L, s.ok) :
    Calls Try.prog 8 #[.slice a L.length c] w fun e w' => e = .returned (.bool true) ∧ Below w.heap.size w w' := by
  have hcm2 : (L.length : Int) ≤ 9223372036854775807 := by unfold maxLen at hcm; omega
  by_cases hf : fairL L
  · have cFr := fair_any a L c w hL hc hcm true ⟨fun _ => hf, fun _ => rfl⟩
    have hlen : L.length ≤ 200 := hf.2
    have hrs : ∀ s ∈ L, s.row.size ≤ 3000 := hf.1
    clear hf hcm
    go_enter Try.func8, Try.ntmps8
    go_wp2_with fail
    refine cFr.mono ?_
    rintro e w1 ⟨rfl, b1⟩
    go_wp2_with fail
    refine (empty_any _).mono ?_
    rintro e w2 ⟨rfl, b2⟩
    have b02 := below2 b1 b2
    have b03 := below2 b02 (below_alloc1 w2 (.cells #[.slice none 0 0] 29))
    have hq := (Pgr.new w2).mono b02.size
    obtain ⟨qb, hqb⟩ : ∃ qb, qb = w2.heap.size := ⟨_, rfl⟩
    rw [← hqb] at hq
    have HQB : Hid (qb = w2.heap.size) := hqb
    clear cFr b1 b2 b02
    go_wp2_with fail
    rw [← HQB.out]
    clear hqb HQB
    go_loopw [3, 5] (fun sp si wr => ∃ (i : Nat) (l : List Sl) (v : Value), i ≤ L.length ∧ si = .int .i64 (i : Int) ∧ sp = .string (pg l) ∧ Fine l ∧ Pgr w.heap.size wr qb v l ∧ Below w.heap.size w wr) (fun _ si _ => L.length - (intOf si).toNat)
    case atStart => exact ⟨0, [], _, Nat.zero_le _, rfl, rfl, fine_nil, hq, b03⟩
    case round =>
      obtain ⟨i, l, v, hi, rfl, rfl, hF, hp, hb⟩ := hrel
      clear hq b03
      by_cases hlt : i < L.length
      · have hlt2 : (i : Int) < (L.length : Int) := by omega
        have hx : L[i]? = some L[i] := by simp [hlt]
        generalize L[i] = x at hx
        have hmem := List.mem_of_getElem? hx
        have hok := hok x hmem
        have hr3 : x.row.size ≤ 1000000 := by have := hrs x hmem; omega
        rcases hL with hL | ⟨bl, off, rfl, hbl, hrd⟩
        · rw [hL] at hlt; simp at hlt
        have k0 : wr.cell? ⟨bl, off + i * 3, none⟩ = some (.int .i64 x.kind) := (hb.cell (p := ⟨bl, off + i * 3, none⟩) hbl).trans (hrd i x hx 0 _ rfl)
        have k1 : wr.cell? ⟨bl, off + i * 3 + 1, none⟩ = some (.int .i64 x.slot) := (hb.cell (p := ⟨bl, off + i * 3 + 1, none⟩) hbl).trans (hrd i x hx 1 _ rfl)
        have k2 : wr.cell? ⟨bl, off + i * 3 + 2, none⟩ = some (.string x.row) := (hb.cell (p := ⟨bl, off + i * 3 + 2, none⟩) hbl).trans (hrd i x hx 2 _ rfl)
        obtain ⟨l', hl'⟩ : ∃ l', stepN l x = l' := ⟨_, rfl⟩
        have hF' : Fine l' := by rw [← hl']; exact step_fine hF x
        have cP := play_any hp hb.size hF x hok.sB hr3 l' hl'
        clear hrd hrs hmem hx hl'
        rcases room_cases l' with ⟨hN, hE⟩ | ⟨n, hN, hn4, hE0, hE1⟩
        · have cFree := fun w => free_pg hF' (-1) hN w
          have cI := fun w => ins_err hF' ⟨#[]⟩ (Nat.zero_le _) 50 hE (by decide) w
          clear hN hE
          go_wp2_with fail
          refine cP.mono ?_
          rintro e w3 ⟨rfl, z⟩
          have b3 := PTo.below hp hb hb.size z
          obtain ⟨v', hp', _, _⟩ := z
          clear cP
          go_wp2_with fail
          refine (cFree _).mono ?_
          rintro e w4 ⟨rfl, b4⟩
          go_wp2_with fail
          refine (cI _).mono ?_
          rintro e w5 ⟨rfl, b5⟩
          have b45 := below2 b4 b5
          go_wp2_with fail
          go_roundw
          case rel => exact ⟨i + 1, l', v', by omega, by go_num, rfl, hF', hp'.below b45, below2 b3 b45⟩
          case measure => simp [intOf]; omega
        · have cFree := fun w => free_pg hF' (n : Int) hN w
          have hz : ∀ n, (ba (List.replicate n (0 : UInt8))).size = n := fun n => by rw [ba_size, List.length_replicate]
          have cI := fun w => ins_ok hF' (ba (List.replicate n 0)) (by rw [hz]; omega) hE0 w
          have cZ := fun w => keepZeros_any n w (by omega)
          have cZ1 := fun w => keepZeros_any (n + 1) w (by omega)
          have hni : ((n + 1 : Nat) : Int) = (n : Int) + 1 := by omega
          rw [hni] at cZ1
          have hn0 : ¬ (n : Int) < 0 := by omega
          generalize pg (insL l' (ba (List.replicate n 0))) = P1 at *
          generalize (first l' : Int) = K1 at *
          rcases hE1 with ⟨h4, hE1⟩ | ⟨h4, hE1⟩
          · have cJ := fun w => ins_err hF' (ba (List.replicate (n + 1) 0)) (by rw [hz]; omega) 50 hE1 (by decide) w
            have h42 : (n : Int) < 400 := by omega
            generalize ba (List.replicate (n + 1) 0) = Z1 at *
            generalize ba (List.replicate n 0) = Z at *
            clear hN hE0 hE1 hz hni h4
            go_wp2_with fail
            refine cP.mono ?_
            rintro e w3 ⟨rfl, z⟩
            have b3 := PTo.below hp hb hb.size z
            obtain ⟨v', hp', _, _⟩ := z
            clear cP
            go_wp2_with fail
            refine (cFree _).mono ?_
            rintro e w4 ⟨rfl, b4⟩
            go_wp2_with fail
            refine (cZ _).mono ?_
            rintro e w5 ⟨rfl, b5⟩
            have b45 := below2 b4 b5
            go_wp2_with fail
            refine (cI _).mono ?_
            rintro e w6 ⟨rfl, b6⟩
            have b46 := below2 b45 b6
            go_wp2_with fail
            refine (cZ1 _).mono ?_
            rintro e w7 ⟨rfl, b7⟩
            have b47 := below2 b46 b7
            go_wp2_with fail
            refine (cJ _).mono ?_
            rintro e w8 ⟨rfl, b8⟩
            have b48 := below2 b47 b8
            go_wp2_with fail
            go_roundw
            case rel => exact ⟨i + 1, l', v', by omega, by go_num, rfl, hF', hp'.below b48, below2 b3 b48⟩
            case measure => simp [intOf]; omega
          · have cJ := fun w => ins_err hF' (ba (List.replicate (n + 1) 0)) (by rw [hz]; omega) 2 hE1 (by decide) w
            have h42 : ¬ (n : Int) < 400 := by omega
            generalize ba (List.replicate (n + 1) 0) = Z1 at *
            generalize ba (List.replicate n 0) = Z at *
            clear hN hE0 hE1 hz hni h4
            go_wp2_with fail
            refine cP.mono ?_
            rintro e w3 ⟨rfl, z⟩
            have b3 := PTo.below hp hb hb.size z
            obtain ⟨v', hp', _, _⟩ := z
            clear cP
            go_wp2_with fail
            refine (cFree _).mono ?_
            rintro e w4 ⟨rfl, b4⟩
            go_wp2_with fail
            refine (cZ _).mono ?_
            rintro e w5 ⟨rfl, b5⟩
            have b45 := below2 b4 b5
            go_wp2_with fail
            refine (cI _).mono ?_
            rintro e w6 ⟨rfl, b6⟩
            have b46 := below2 b45 b6
            go_wp2_with fail
            refine (cZ1 _).mono ?_
            rintro e w7 ⟨rfl, b7⟩
            have b47 := below2 b46 b7
            go_wp2_with fail
            refine (cJ _).mono ?_
            rintro e w8 ⟨rfl, b8⟩
            have b48 := below2 b47 b8
            go_wp2_with fail
            go_roundw
            case rel => exact ⟨i + 1, l', v', by omega, by go_num, rfl, hF', hp'.below b48, below2 b3 b48⟩
            case measure => simp [intOf]; omega
      · obtain rfl : i = L.length := by omega
        go_wp2_with fail
        refine (wakes_any _).mono ?_
        rintro e w4 ⟨rfl, b4⟩
        go_wp2_with fail
        go_ret
        exact ⟨rfl, below2 hb b4⟩
  · have cFr := fair_any a L c w hL hc hcm false ⟨(fun h => by cases h), (fun h => absurd h hf)⟩
    go_enter Try.func8, Try.ntmps8
    go_wp2_with fail
    refine cFr.mono ?_
    rintro e w1 ⟨rfl, b1⟩
    go_wp2_with fail
    refine (wakes_any _).mono ?_
    rintro e w2 ⟨rfl, b2⟩
    go_wp2_with fail
    go_ret
    exact ⟨rfl, below2 b1 b2⟩

section
open Go.ChangeShapes Go.WideShapes Go.ChangeAt Go.Deep
theorem pageRoom_any {H : Type} {enc : TypeId × Value → H} {base : Nat} {d : DataW H} {ps : List MemPlace} (v : Value) (W : World) (hv : Value.okWide Try.prog W .any base 22 v) (h : DataW.Trod enc Try.prog W 0 (fun _ => true) true 22 v d ps) :
    Calls Try.prog 8 #[v] W fun e w' => e = .returned (.bool true) ∧ Below W.heap.size W w' := by
  obtain ⟨a, L, c, rfl, h1, h2, h3, h4⟩ := open_steps hv h
  exact pageRoom_walk a L c W h1 h2 h3 h4
end

end Go.Proofs.Ytfgblmbocchddaa

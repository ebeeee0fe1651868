/- PagePlays: the walk. -/
import Derived.Test.YtfgblmbocchddaaPSame
import Derived.Test.YtfgblmbocchddaaPPlay
namespace Go.Proofs.Ytfgblmbocchddaa
open Go.RowKit

set_option maxHeartbeats 3200000 in
set_option maxRecDepth 100000 in
theorem pagePlays_walk (a : Option Addr) (L : List St) (c : Nat) (w : World) (hL : SlG w a 3 St.cells L) (hc : L.length ≤ c) (hcm : c ≤ maxLen) (hok : ∀ s ∈ L, s.ok) :
    Calls Try.prog 3 #[.slice a L.length c] w fun e w' => e = .returned (.bool true) ∧ Below w.heap.size w w' := by
  have hcm2 : (L.length : Int) ≤ 9223372036854775807 := by unfold maxLen at hcm; omega
  by_cases hf : fairL L
  · have cFr := fair_any a L c w hL hc hcm true ⟨fun _ => hf, fun _ => rfl⟩
    have hlen : L.length ≤ 200 := hf.2
    have hrs : ∀ s ∈ L, s.row.size ≤ 3000 := hf.1
    clear hf hcm
    go_enter Try.func3, Try.ntmps3
    go_wp2_with fail
    refine cFr.mono ?_
    rintro e w1 ⟨rfl, b1⟩
    go_wp2_with fail
    refine (empty_any _).mono ?_
    rintro e w2 ⟨rfl, b2⟩
    have b02 := below2 b1 b2
    have b03 := below2 b02 (below_alloc1 w2 (.cells #[.slice none 0 0] 29))
    have hq := (Pgr.new w2).mono b02.size
    obtain ⟨qb, hqb⟩ : ∃ qb, qb = w2.heap.size := ⟨_, rfl⟩
    rw [← hqb] at hq
    have HQB : Hid (qb = w2.heap.size) := hqb
    clear cFr b1 b2 b02
    go_wp2_with fail
    rw [← HQB.out]
    clear hqb HQB
    go_loopw [3, 5] (fun sp si wr => ∃ (i : Nat) (l : List Sl) (v : Value), i ≤ L.length ∧ si = .int .i64 (i : Int) ∧ sp = .string (pg l) ∧ Fine l ∧ Pgr w.heap.size wr qb v l ∧ Below w.heap.size w wr) (fun _ si _ => L.length - (intOf si).toNat)
    case atStart => exact ⟨0, [], _, Nat.zero_le _, rfl, rfl, fine_nil, hq, b03⟩
    case round =>
      obtain ⟨i, l, v, hi, rfl, rfl, hF, hp, hb⟩ := hrel
      clear hq b03
      by_cases hlt : i < L.length
      · have hlt2 : (i : Int) < (L.length : Int) := by omega
        have hx : L[i]? = some L[i] := by simp [hlt]
        generalize L[i] = x at hx
        have hmem := List.mem_of_getElem? hx
        have hok := hok x hmem
        have hr3 : x.row.size ≤ 1000000 := by have := hrs x hmem; omega
        rcases hL with hL | ⟨bl, off, rfl, hbl, hrd⟩
        · rw [hL] at hlt; simp at hlt
        have k0 : wr.cell? ⟨bl, off + i * 3, none⟩ = some (.int .i64 x.kind) := (hb.cell (p := ⟨bl, off + i * 3, none⟩) hbl).trans (hrd i x hx 0 _ rfl)
        have j1 := hrd i x hx 1 _ rfl
        have k1 : wr.cell? ⟨bl, off + i * 3 + 1, none⟩ = some (.int .i64 x.slot) := (hb.cell (p := ⟨bl, off + i * 3 + 1, none⟩) hbl).trans j1
        have k2 : wr.cell? ⟨bl, off + i * 3 + 2, none⟩ = some (.string x.row) := (hb.cell (p := ⟨bl, off + i * 3 + 2, none⟩) hbl).trans (hrd i x hx 2 _ rfl)
        obtain ⟨l', hl'⟩ : ∃ l', stepN l x = l' := ⟨_, rfl⟩
        have hF' : Fine l' := by rw [← hl']; exact step_fine hF x
        have cP := play_any hp hb.size hF x hok.sB hr3 l' hl'
        clear hrd hrs hmem hx hl'
        go_wp2_with fail
        refine cP.mono ?_
        rintro e w3 ⟨rfl, z⟩
        have b3 := PTo.below hp hb hb.size z
        obtain ⟨v', hp', _, _⟩ := z
        have k1' : w3.cell? ⟨bl, off + i * 3 + 1, none⟩ = some (.int .i64 x.slot) := (b3.cell (p := ⟨bl, off + i * 3 + 1, none⟩) hbl).trans j1
        have cS := same_any hp' hF' x.slot hok.sB
        clear cP
        go_wp2_with fail
        refine cS.mono ?_
        rintro e w4 ⟨rfl, b4⟩
        go_wp2_with fail
        go_roundw
        case rel => exact ⟨i + 1, l', v', by omega, by go_num, rfl, hF', hp'.below b4, below2 b3 b4⟩
        case measure => simp [intOf]; omega
      · obtain rfl : i = L.length := by omega
        go_wp2_with fail
        refine (wakes_any _).mono ?_
        rintro e w4 ⟨rfl, b4⟩
        go_wp2_with fail
        go_ret
        exact ⟨rfl, below2 hb b4⟩
  · have cFr := fair_any a L c w hL hc hcm false ⟨(fun h => by cases h), (fun h => absurd h hf)⟩
    go_enter Try.func3, Try.ntmps3
    go_wp2_with fail
    refine cFr.mono ?_
    rintro e w1 ⟨rfl, b1⟩
    go_wp2_with fail
    refine (wakes_any _).mono ?_
    rintro e w2 ⟨rfl, b2⟩
    go_wp2_with fail
    go_ret
    exact ⟨rfl, below2 b1 b2⟩

section
open Go.ChangeShapes Go.WideShapes Go.ChangeAt Go.Deep
theorem pagePlays_any {H : Type} {enc : TypeId × Value → H} {base : Nat} {d : DataW H} {ps : List MemPlace} (v : Value) (W : World) (hv : Value.okWide Try.prog W .any base 22 v) (h : DataW.Trod enc Try.prog W 0 (fun _ => true) true 22 v d ps) :
    Calls Try.prog 3 #[v] W fun e w' => e = .returned (.bool true) ∧ Below W.heap.size W w' := by
  obtain ⟨a, L, c, rfl, h1, h2, h3, h4⟩ := open_steps hv h
  exact pagePlays_walk a L c W h1 h2 h3 h4
end

end Go.Proofs.Ytfgblmbocchddaa

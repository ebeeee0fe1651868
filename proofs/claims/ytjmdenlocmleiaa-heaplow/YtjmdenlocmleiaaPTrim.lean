/- trim, room, withFree, zeros. -/
import Derived.Test.YtjmdenlocmleiaaPCells
import Derived.Test.YtjmdenlocmleiaaShelf
namespace Go.Proofs.Ytjmdenlocmleiaa
open Go.RowKit

def slen : Value → Nat
  | .slice _ n _ => n
  | _ => 0

set_option maxHeartbeats 800000 in
set_option maxRecDepth 100000 in
theorem trim_any (a : Option Addr) (c : Nat) (l : List Sl) (B : Nat) (w : World) (h : Rw 94 cf w B (.slice a l.length c) l) (hl : l.length ≤ 1000) (hc : l.length ≤ c) :
    Calls Try.prog 67 #[.slice a l.length c] w fun e w' => e = .returned (.slice a (trimL l).length c) ∧ w' = w := by
  go_enter Try.func67, Try.ntmps67
  go_wp2_with fail
  go_loop [0] (fun sl => ∃ k : Nat, k ≤ l.length ∧ sl = .slice a k c ∧ trimL (l.take k) = trimL l) (fun sl => slen sl)
  case atStart => exact ⟨l.length, Nat.le_refl _, rfl, by rw [List.take_length]⟩
  case round =>
    obtain ⟨k, hk, rfl, hT⟩ := hrel
    have HT : Hid (trimL (l.take k) = trimL l) := hT
    clear hT
    by_cases h0 : k = 0
    · subst h0
      have e : (trimL l).length = 0 := by rw [← HT.out]; rfl
      go_wp2_with fail
      go_ret
      exact ⟨rfl, rfl⟩
    · obtain ⟨j, rfl⟩ : ∃ j, k = j + 1 := ⟨k - 1, by omega⟩
      have hx : l[j]? = some l[j] := by simp [show j < l.length by omega]
      generalize l[j] = s at hx
      obtain ⟨b, c', e, _, _, _, _, c0, _⟩ := h.cell hx
      cases e
      have hts := take_snoc l j s hx
      cases s with
      | none =>
        have HT2 : Hid (trimL (l.take j) = trimL l) := by show _ = _; rw [← HT.out, hts, trim_none]
        have c0' : w.cell? ⟨b, j * 2, none⟩ = some (.bool false) := c0
        clear c0 hts HT
        go_wp2_with fail
        go_round
        case rel => exact ⟨j, by omega, rfl, HT2.out⟩
        case measure => simp [slen]
      | some r =>
        have e2 : (trimL l).length = j + 1 := by rw [← HT.out, hts, trim_some, ← hts, List.length_take]; omega
        have c0' : w.cell? ⟨b, j * 2, none⟩ = some (.bool true) := c0
        clear c0 hts HT
        go_wp2_with fail
        go_ret
        exact ⟨rfl, rfl⟩

theorem repeat0 (n : Nat) : Lib.repeatL [0] n = List.replicate n (0 : UInt8) := by
  induction n with
  | zero => rfl
  | succ n ih => simp [Lib.repeatL, ih, List.replicate_succ]

set_option maxHeartbeats 400000 in
theorem zeros_any (n : Nat) (w : World) (hn : n ≤ 1000000) :
    Calls Try.prog 68 #[.int .i64 (n : Int)] w fun e w' => e = .returned (.string (ba (List.replicate n 0))) ∧ Below w.heap.size w w' := by
  have c := fun w => Try.strings_Repeat ⟨#[0]⟩ n w (by omega) (by show 1 * n ≤ _; omega)
  have e : Lib.repeatL (⟨#[0]⟩ : ByteArray).data.toList n = List.replicate n 0 := repeat0 n
  rw [e] at c
  go_enter Try.func68, Try.ntmps68
  go_wp2_with fail
  refine (c _).mono ?_
  rintro e w1 ⟨rfl, b1⟩
  go_wp2_with fail
  go_ret
  exact ⟨rfl, b1⟩

set_option maxHeartbeats 800000 in
set_option maxRecDepth 100000 in
theorem room_any (a : Option Addr) (c : Nat) (l : List Sl) (B : Nat) (w : World) (h : Rw 94 cf w B (.slice a l.length c) l) (hl : l.length ≤ 1000) (hr : ∀ r, some r ∈ l → r.size ≤ 400) (R : Int) (HR : Hid (room l = R)) :
    Calls Try.prog 50 #[.slice a l.length c] w fun e w' => e = .returned (.int .i64 R) ∧ Below w.heap.size w w' := by
  go_enter Try.func50, Try.ntmps50
  go_wp2_with fail
  go_loopw [3, 12] (fun sn si wr => ∃ k : Nat, k ≤ l.length ∧ si = .int .i64 (k : Int) ∧ sn = .int .i64 (508 - 4 * (l.length : Int) - (tot (l.take k) : Int)) ∧ tot (l.take k) ≤ 400 * k ∧ Below w.heap.size w wr) (fun _ si _ => l.length - (intOf si).toNat)
  case atStart => exact ⟨0, Nat.zero_le _, rfl, by simp [tot], by simp [tot], Below.refl _ _⟩
  case round =>
    obtain ⟨k, hk, rfl, rfl, ht, hb⟩ := hrel
    by_cases hlt : k < l.length
    · have hlt2 : (k : Int) < (l.length : Int) := by omega
      have hx : l[k]? = some l[k] := by simp [hlt]
      generalize l[k] = s at hx
      obtain ⟨b, c', e, _, _, _, hbl, c0, c1, _⟩ := h.cell hx
      cases e
      have hmem := List.mem_of_getElem? hx
      have hts : tot (l.take (k + 1)) = tot (l.take k) + (rowOf s).size := by rw [take_snoc l k s hx, tot_append]; simp [tot]
      have hs : (rowOf s).size ≤ 400 := by
        cases s with
        | none => exact Nat.zero_le _
        | some r => exact hr r hmem
      have d0 : wr.cell? ⟨b, k * 2, none⟩ = some (.bool s.isSome) := (hb.cell (p := ⟨b, k * 2, none⟩) hbl).trans c0
      have d1 : wr.cell? ⟨b, k * 2 + 1, none⟩ = some (.string (rowOf s)) := (hb.cell (p := ⟨b, k * 2 + 1, none⟩) hbl).trans c1
      clear c0 c1
      generalize s.isSome = q at *
      generalize rowOf s = rw0 at *
      generalize tot (l.take k) = t at *
      go_wp2_with fail
      go_roundw
      case rel => exact ⟨k + 1, by omega, by go_num, by rw [hts]; go_num, by omega, below2 hb (below_alloc1 _ _)⟩
      case measure => simp [intOf]; omega
    · obtain rfl : k = l.length := by omega
      rw [List.take_length] at *
      have e : 508 - 4 * (l.length : Int) - (tot l : Int) = R := HR.out
      go_wp2_with fail
      go_ret
      exact ⟨by rw [← e]; rfl, hb⟩

set_option maxHeartbeats 800000 in
set_option maxRecDepth 100000 in
theorem withFree_any (a : Option Addr) (c : Nat) (l : List Sl) (B : Nat) (w : World) (h : Rw 94 cf w B (.slice a l.length c) l) (hl : l.length ≤ 999) (hB : B ≤ w.heap.size) :
    Calls Try.prog 65 #[.slice a l.length c] w fun e w' => ∃ v, e = .returned (.tuple #[v, .int .i64 (first l : Int)]) ∧ Rw 94 cf w' B v (withF l) ∧ Below B w w' := by
  go_enter Try.func65, Try.ntmps65
  go_wp2_with fail
  go_loopw [8] (fun si wr => ∃ k : Nat, k ≤ first l ∧ si = .int .i64 (k : Int) ∧ Below w.heap.size w wr) (fun si _ => l.length - (intOf si).toNat)
  case atStart => exact ⟨0, Nat.zero_le _, rfl, Below.refl _ _⟩
  case round =>
    obtain ⟨k, hk, rfl, hb⟩ := hrel
    have hfl := first_le l
    by_cases hlt : k < l.length
    · have hlt2 : (k : Int) < (l.length : Int) := by omega
      by_cases hf : k < first l
      · obtain ⟨r, hx⟩ := first_lt l k hf
        obtain ⟨b, c', e, _, _, _, hbl, c0, c1, _⟩ := h.cell hx
        cases e
        have d0 : wr.cell? ⟨b, k * 2, none⟩ = some (.bool true) := (hb.cell (p := ⟨b, k * 2, none⟩) hbl).trans c0
        have d1 : wr.cell? ⟨b, k * 2 + 1, none⟩ = some (.string r) := (hb.cell (p := ⟨b, k * 2 + 1, none⟩) hbl).trans c1
        clear c0 c1
        go_wp2_with fail
        go_roundw
        case rel => exact ⟨k + 1, by omega, by go_num, below2 hb (below_alloc1 _ _)⟩
        case measure => simp [intOf]; omega
      · obtain rfl : k = first l := by omega
        have hx := first_none l hlt
        obtain ⟨b, c', e, _, _, _, hbl, c0, c1, _⟩ := h.cell hx
        cases e
        have d0 : wr.cell? ⟨b, first l * 2, none⟩ = some (.bool false) := (hb.cell (p := ⟨b, first l * 2, none⟩) hbl).trans c0
        have d1 : wr.cell? ⟨b, first l * 2 + 1, none⟩ = some (.string ⟨#[]⟩) := (hb.cell (p := ⟨b, first l * 2 + 1, none⟩) hbl).trans c1
        clear c0 c1
        have hw : withF l = l := by unfold withF; rw [if_pos hlt]
        have b2 := below2 hb (below_alloc1 wr (.cells #[.bool false, .string ⟨#[]⟩] 94))
        go_wp2_with fail
        go_ret2
        exact ⟨_, rfl, by rw [hw]; exact h.below' b2, b2.mono hB⟩
    · have hf : first l = l.length := by omega
      have hkl : k = l.length := by omega
      have hw : withF l = l ++ [none] := by unfold withF; rw [if_neg (by omega)]
      subst hkl
      have hr := h.below' (below2 hb (below_alloc1 wr (.cells #[.bool false, .string ⟨#[]⟩] 94)))
      have hsz := hb.size
      go_wp2_with (at_builtin; refine wpList_append_cf _ rfl _ _ rfl B _ l rfl hr wr.heap.size none rfl (by simp; rfl) (by simp; rfl) (by omega) (by simp; omega) ?_; intro v' w' hrow hfr hnew)
      go_ret2
      refine ⟨_, by rw [hf]; rfl, by rw [hw]; exact hrow, ?_⟩
      exact hfr.below ((below2 hb (below_alloc1 _ _)).mono hB) (by simp; omega) (fun k e => (h.blk e).1)

end Go.Proofs.Ytjmdenlocmleiaa

/- PageEmpties: the walk. -/
import Derived.Test.YtfgblmbocchddaaPStep
namespace Go.Proofs.Ytfgblmbocchddaa
open Go.RowKit

/-- How many rows there are. -/
def cnt : List Sl → Nat
  | [] => 0
  | none :: l => cnt l
  | some _ :: l => cnt l + 1
theorem cnt_slots (l : List Sl) (i : Nat) : (slotsF l i).length = cnt l := by
  induction l generalizing i with
  | nil => rfl
  | cons s l ih => cases s <;> simp [slotsF, cnt, ih]
theorem cnt_append (a b : List Sl) : cnt (a ++ b) = cnt a + cnt b := by
  induction a with
  | nil => simp [cnt]
  | cons s a ih => cases s <;> simp [cnt, ih] <;> omega
theorem cnt_trim (l : List Sl) : cnt (trimL l) = cnt l := by
  have hn : ∀ n, ∀ l : List Sl, l.length = n → cnt (trimL l) = cnt l := by
    intro n
    induction n with
    | zero => intro l hl; rw [List.eq_nil_of_length_eq_zero hl]; rfl
    | succ n ih =>
      intro l hl
      have h0 : l ≠ [] := by intro e; rw [e] at hl; simp at hl
      have e := (List.dropLast_concat_getLast h0).symm
      generalize l.dropLast = a at e
      generalize l.getLast h0 = s at e
      subst e
      cases s with
      | none => rw [trim_none, ih a (by simpa using hl), cnt_append]; rfl
      | some x => rw [trim_some]
  exact hn _ l rfl
theorem cnt_set (l : List Sl) (j : Nat) (r : ByteArray) (h : l[j]? = some (some r)) : cnt (l.set j none) + 1 = cnt l := by
  induction l generalizing j with
  | nil => simp at h
  | cons s l ih =>
    cases j with
    | zero => simp at h; subst h; simp [cnt]
    | succ j => simp at h; have := ih j h; cases s <;> simp [cnt] <;> omega
theorem cnt_le (l : List Sl) : cnt l ≤ l.length := by
  induction l with
  | nil => simp [cnt]
  | cons s l ih => cases s <;> simp [cnt] <;> omega
theorem cnt_none (l : List Sl) (h : trimL l = l) (h0 : cnt l = 0) : l = [] := by
  rcases trim_last l h with e | ⟨a, r, rfl⟩
  · exact e
  · rw [cnt_append] at h0
    simp [cnt] at h0
theorem slots_at (l : List Sl) (i n : Nat) (k : Int) (h : (slotsF l i)[n]? = some k) : ∃ (j : Nat) (r : ByteArray), k = ((i + j : Nat) : Int) ∧ l[j]? = some (some r) := by
  induction l generalizing i n with
  | nil => simp [slotsF] at h
  | cons s l ih =>
    cases s with
    | none =>
      obtain ⟨j, r, e, hj⟩ := ih (i + 1) n h
      exact ⟨j + 1, r, by rw [e]; congr 1; omega, by simpa using hj⟩
    | some x =>
      cases n with
      | zero => simp [slotsF] at h; exact ⟨0, x, by rw [← h]; rfl, rfl⟩
      | succ n =>
        simp [slotsF] at h
        obtain ⟨j, r, e, hj⟩ := ih (i + 1) n h
        exact ⟨j + 1, r, by rw [e]; congr 1; omega, by simpa using hj⟩

theorem tmod_mod (k : Int) (n : Nat) (hn : 1 ≤ n) : ∃ r : Nat, r < n ∧ (k.tmod n + n).tmod n = (r : Int) ∧ -(n : Int) < k.tmod n ∧ k.tmod n < n := by
  have h1 : k.tmod n < n := Int.tmod_lt_of_pos _ (by omega)
  have h2 : -(n : Int) < k.tmod n := by
    have := Int.lt_tmod_of_pos k (b := (n : Int)) (by omega)
    exact this
  refine ⟨((k.tmod n + n).tmod n).toNat, ?_, ?_, h2, h1⟩
  · have h3 : (k.tmod n + n).tmod n < n := Int.tmod_lt_of_pos _ (by omega)
    have h4 : 0 ≤ (k.tmod n + n).tmod n := Int.tmod_nonneg _ (by omega)
    omega
  · have h4 : 0 ≤ (k.tmod n + n).tmod n := Int.tmod_nonneg _ (by omega)
    omega

set_option maxHeartbeats 400000 in
theorem mod_any (k : Int) (n : Nat) (w : World) (_h0 : -9223372036854775808 ≤ k) (_h1 : k ≤ 9223372036854775807) (hn : 1 ≤ n) (hn2 : n ≤ 1000) :
    Calls Try.prog 22 #[.int .i64 k, .int .i64 (n : Int)] w fun e w' => ∃ r : Nat, e = .returned (.int .i64 (r : Int)) ∧ r < n ∧ w' = w := by
  obtain ⟨r, hr, he, b1, b2⟩ := tmod_mod k n hn
  have hz : ((n : Int) == 0) = false := by rw [beq_eq_false_iff_ne]; omega
  have hm1 : ((n : Int) == -1) = false := by rw [beq_eq_false_iff_ne]; omega
  have hlt : decide ((n : Int) < 1) = false := by simp; omega
  generalize hq : k.tmod (n : Int) = q at *
  go_enter Try.func22, Try.ntmps22
  go_wp2_with fail
  go_ret
  exact ⟨r, rfl, hr, rfl⟩

theorem free_nil : freeN [] = 400 := by decide

set_option maxHeartbeats 3200000 in
set_option maxRecDepth 100000 in
theorem pageEmpties_walk (a : Option Addr) (L : List St) (c : Nat) (ta : Option Addr) (T : List Int) (tc : Nat) (w : World) (hL : SlG w a 3 St.cells L) (hc : L.length ≤ c) (hcm : c ≤ maxLen) (hT : SlG w ta 1 (fun x => [.int .i64 x]) T) (_htc : T.length ≤ tc) (htm : tc ≤ maxLen) (hTb : ∀ x ∈ T, i64B x) :
    Calls Try.prog 6 #[.slice a L.length c, .slice ta T.length tc] w fun e w' => e = .returned (.bool true) ∧ Below w.heap.size w w' := by
  have hcm2 : (L.length : Int) ≤ 9223372036854775807 := by unfold maxLen at hcm; omega
  have htm2 : (T.length : Int) ≤ 9223372036854775807 := by unfold maxLen at htm; omega
  by_cases hf : fairL L
  · have cFr := fair_any a L c w hL hc hcm true ⟨fun _ => hf, fun _ => rfl⟩
    have hlen : L.length ≤ 200 := hf.2
    have hrs : ∀ s ∈ L, s.row.size ≤ 3000 := hf.1
    clear hf hcm htm
    go_enter Try.func6, Try.ntmps6
    go_wp2_with fail
    refine cFr.mono ?_
    rintro e w1 ⟨rfl, b1⟩
    go_wp2_with fail
    refine (empty_any _).mono ?_
    rintro e w2 ⟨rfl, b2⟩
    have b02 := below2 b1 b2
    clear cFr b1 b2
    go_wp2_with fail
    go_loopw [5, 6] (fun sp si wr => ∃ (i : Nat) (l : List Sl), i ≤ L.length ∧ si = .int .i64 (i : Int) ∧ sp = .string (pg l) ∧ Fine l ∧ Below w.heap.size w wr) (fun _ si _ => L.length - (intOf si).toNat)
    case atStart => exact ⟨0, [], Nat.zero_le _, rfl, rfl, fine_nil, b02⟩
    case round =>
      obtain ⟨i, l, hi, rfl, rfl, hF, hb⟩ := hrel
      clear b02
      by_cases hlt : i < L.length
      · have hlt2 : (i : Int) < (L.length : Int) := by omega
        have hx : L[i]? = some L[i] := by simp [hlt]
        generalize L[i] = x at hx
        have hmem := List.mem_of_getElem? hx
        have hr3 : x.row.size ≤ 1000000 := by have := hrs x hmem; omega
        rcases hL with hL | ⟨bl, off, rfl, hbl, hrd⟩
        · rw [hL] at hlt; simp at hlt
        have k2 : wr.cell? ⟨bl, off + i * 3 + 2, none⟩ = some (.string x.row) := (hb.cell (p := ⟨bl, off + i * 3 + 2, none⟩) hbl).trans (hrd i x hx 2 _ rfl)
        obtain ⟨P, K, E, hO, -, cC⟩ := ins_pg hF x.row hr3
        have hF' := hO.fine hF
        generalize hl' : insN l x.row = l' at *
        clear hl' hrd hrs hmem hx
        rcases hO with ⟨rfl, rfl, _⟩ | ⟨hE, rfl, rfl⟩
        · go_wp2_with fail
          refine (cC _).mono ?_
          rintro e w3 ⟨rfl, b3⟩
          go_wp2_with fail
          go_roundw
          case rel => exact ⟨i + 1, l', by omega, by go_num, rfl, hF', below2 hb b3⟩
          case measure => simp [intOf]; omega
        · have hE2 : (E == 0) = false := by simpa using hE
          go_wp2_with fail
          refine (cC _).mono ?_
          rintro e w3 ⟨rfl, b3⟩
          go_wp2_with fail
          go_roundw
          case rel => exact ⟨i + 1, l', by omega, by go_num, rfl, hF', below2 hb b3⟩
          case measure => simp [intOf]; omega
      · obtain rfl : i = L.length := by omega
        have hfew := few hF.room
        have hcl := cnt_le l
        go_wp2_with fail
        go_loopw [5, 10] (fun sp si wr => ∃ (j : Nat) (l : List Sl), j + cnt l ≤ 127 ∧ si = .int .i64 (j : Int) ∧ sp = .string (pg l) ∧ Fine l ∧ Below w.heap.size w wr) (fun _ si _ => 600 - (intOf si).toNat)
        case atStart => exact ⟨0, l, by omega, rfl, rfl, hF, hb⟩
        case round =>
          clear hF hb hfew hcl
          obtain ⟨j, l, hj, rfl, rfl, hF, hb⟩ := hrel
          have hj6 : (j : Int) < 600 := by omega
          have hct := cnt_slots l 0
          have cS := fun w => slots_pg hF (slotsF l 0) rfl w
          by_cases h0 : cnt l = 0
          · obtain rfl := cnt_none l hF.trim h0
            have cFree := fun w => free_pg fine_nil 400 free_nil w
            clear h0 hct hj
            go_wp2_with fail
            refine (cS _).mono ?_
            rintro e w3 ⟨v, rfl, r3, b3⟩
            have bb3 := below2 hb b3
            obtain ⟨a3, c3, rfl, _⟩ := r3.len
            have e0 : (slotsF [] 0).length = 0 := rfl
            rw [e0]
            go_wp2_with fail
            refine (empty_any _).mono ?_
            rintro e w4 ⟨rfl, b4⟩
            have bb4 := below2 bb3 b4
            go_wp2_with fail
            refine (cFree _).mono ?_
            rintro e w5 ⟨rfl, b5⟩
            have bb5 := below2 bb4 b5
            go_wp2_with fail
            refine (wakes_any _).mono ?_
            rintro e w6 ⟨rfl, b6⟩
            go_wp2_with fail
            go_ret
            exact ⟨rfl, below2 bb5 b6⟩
          · generalize hA : slotsF l 0 = A at *
            have hA0 : ((A.length : Int) == 0) = false := by rw [beq_eq_false_iff_ne]; omega
            have hA1 : 1 ≤ A.length := by omega
            have hA2 : A.length ≤ 127 := by omega
            have HDel : Hid (∀ (n : Nat) (x : Int), A[n]? = some x → i64ok x ∧ ∃ l', Fine l' ∧ cnt l' + 1 = cnt l ∧ ∀ w, Calls Try.prog 19 #[.string (pg l), .int .i64 x] w fun e w' => e = .returned (.tuple #[.string (pg l'), .int .i64 0]) ∧ Below w.heap.size w w') := by
              intro n x hx
              rw [← hA] at hx
              obtain ⟨i, r, e, hi⟩ := slots_at l 0 n x hx
              rw [Nat.zero_add] at e
              subst e
              have hlt : i < l.length := (List.getElem?_eq_some_iff.1 hi).1
              have := few hF.room
              refine ⟨⟨by omega, by omega⟩, delL l (i : Int), del_fine hF _, ?_, fun w => del_row (pg l) l i r w (by rw [pg_size hF]; omega) (rd_pg hF) hF hi _ rfl⟩
              unfold delL
              rw [cnt_trim, Int.toNat_natCast]
              exact cnt_set l i r hi
            clear hA hct h0
            by_cases hT0 : T.length = 0
            · have hT02 : ¬ (0 : Int) < (T.length : Int) := by omega
              clear hT0
              have hx : A[0]? = some A[0] := by simp
              generalize A[0] = x at hx
              obtain ⟨hxo, l', hF', hcn, cD⟩ := HDel.out 0 x hx
              go_wp2_with fail
              refine (cS _).mono ?_
              rintro e w3 ⟨v, rfl, r3, b3⟩
              have bb3 := below2 hb b3
              obtain ⟨b, c3, rfl, _, _, _, q⟩ := r3.cell hx
              clear cS HDel r3
              go_wp2_with fail
              refine (cD _).mono ?_
              rintro e w4 ⟨rfl, b4⟩
              go_wp2_with fail
              go_roundw
              case rel => exact ⟨j + 1, l', by omega, by go_num, rfl, hF', below2 bb3 b4⟩
              case measure => simp [intOf]; omega
            · have hT02 : (0 : Int) < (T.length : Int) := by omega
              have hTz : ((T.length : Int) == 0) = false := by rw [beq_eq_false_iff_ne]; omega
              have hTm : ((T.length : Int) == -1) = false := by rw [beq_eq_false_iff_ne]; omega
              obtain ⟨m, hm⟩ : ∃ m, m = j % T.length := ⟨_, rfl⟩
              have hmi : (j : Int).tmod (T.length : Int) = (m : Int) := by rw [hm]; rfl
              have hml : m < T.length := by rw [hm]; exact Nat.mod_lt _ (by omega)
              clear hm
              have hy : T[m]? = some T[m] := by simp [hml]
              generalize T[m] = y at hy
              have hyb := hTb y (List.mem_of_getElem? hy)
              rcases hT with hT | ⟨tb, toff, rfl, htb, htr⟩
              · rw [hT] at hml; simp at hml
              have cy := htr m y hy 0 _ rfl
              rw [Nat.mul_one, Nat.add_zero] at cy
              have cM := fun w => mod_any y A.length w hyb.1 hyb.2 hA1 (by omega)
              clear htr hTb hy
              go_wp2_with fail
              refine (cS _).mono ?_
              rintro e w3 ⟨v, rfl, r3, b3⟩
              have bb3 := below2 hb b3
              have r3' := r3
              obtain ⟨a3, c3, rfl, _⟩ := r3.len
              have cy3 : w3.cell? ⟨tb, toff + m, none⟩ = some (.int .i64 y) := (bb3.cell (p := ⟨tb, toff + m, none⟩) htb).trans cy
              clear cS r3
              go_wp2_with fail
              refine (cM _).mono ?_
              rintro e w4 ⟨r, rfl, hr, e4⟩
              rw [e4]
              clear e4 cM
              have hx : A[r]? = some A[r] := by simp [hr]
              generalize A[r] = x at hx
              obtain ⟨hxo, l', hF', hcn, cD⟩ := HDel.out r x hx
              obtain ⟨b, c3', e, _, _, _, q⟩ := r3'.cell hx
              cases e
              have hri : (r : Int) < (A.length : Int) := by omega
              clear HDel r3'
              go_wp2_with fail
              refine (cD _).mono ?_
              rintro e w5 ⟨rfl, b5⟩
              go_wp2_with fail
              go_roundw
              case rel => exact ⟨j + 1, l', by omega, by go_num, rfl, hF', below2 bb3 b5⟩
              case measure => simp [intOf]; omega
  · have cFr := fair_any a L c w hL hc hcm false ⟨(fun h => by cases h), (fun h => absurd h hf)⟩
    go_enter Try.func6, Try.ntmps6
    go_wp2_with fail
    refine cFr.mono ?_
    rintro e w1 ⟨rfl, b1⟩
    go_wp2_with fail
    refine (wakes_any _).mono ?_
    rintro e w2 ⟨rfl, b2⟩
    go_wp2_with fail
    go_ret
    exact ⟨rfl, below2 b1 b2⟩

section
open Go.ChangeShapes Go.WideShapes Go.ChangeAt Go.Deep
theorem pageEmpties_any {H : Type} {enc : TypeId × Value → H} {base : Nat} {d d' : DataW H} {ps ps' : List MemPlace} (v u : Value) (W : World) (hv : Value.okWide Try.prog W .any base 22 v) (h : DataW.Trod enc Try.prog W 0 (fun _ => true) true 22 v d ps) (hu : Value.okWide Try.prog W .any base 36 u) (h' : DataW.Trod enc Try.prog W 0 (fun _ => true) true 36 u d' ps') :
    Calls Try.prog 6 #[v, u] W fun e w' => e = .returned (.bool true) ∧ Below W.heap.size W w' := by
  obtain ⟨a, L, c, rfl, h1, h2, h3, _⟩ := open_steps hv h
  obtain ⟨a', L', c', rfl, k1, k2, k3, k4⟩ := open_ints hu h'
  exact pageEmpties_walk a L c a' L' c' W h1 h2 h3 k1 k2 k3 k4
end

end Go.Proofs.Ytfgblmbocchddaa

/- The contract of DecodeProps. -/
import Derived.Test.YtndbhalkhejgjaaVDecProps
namespace Go.Proofs.Ytndbhalkhejgjaa
open Go.RowKit
attribute [local go_sem ↓] Go.wp_at_zero Go.wp_at_succ

/-- What stands while DecodeProps goes over bytes. -/
structure DecRow (w wr : World) (v : Value) (A : List Pr) : Prop where
  own : wr.ownsRow w.heap.size 62 4 v A.length (cellsL A)
  root : Below w.heap.size w wr

theorem DecRow.below {w wr w1 : World} {v : Value} {A : List Pr} (h : DecRow w wr v A) (hb : Below wr.heap.size wr w1) : DecRow w w1 v A :=
  ⟨owns_below h.own hb, below2 h.root hb⟩

theorem DecRow.alloc {w wr : World} {v : Value} {A : List Pr} (h : DecRow w wr v A) (o : Obj) : DecRow w (wr.alloc o) v A := h.below (below_alloc1 wr o)

theorem DecRow.push {w wr w1 : World} {v v1 : Value} {p : Pr} {A : List Pr} (h : DecRow w wr v A) (hg : wr.grownBy w1 v.ownBlock)
    (ho : w1.ownsRow w.heap.size 62 4 v1 (A.length + 1) (cellsL A ++ p.cells)) : DecRow w w1 v1 (A ++ [p]) := by
  refine ⟨?_, h.root.grown hg h.root.size (fun k hk => (h.own.lt k hk).1)⟩
  rw [cellsL_append, cellsL_one]
  simpa using ho

/-- What DecodeProps answers. -/
def GotL (w w' : World) (e : Ending) (d : List Pr × Nat × Bool) : Prop := ∃ a cap, e = .returned (.tuple #[.slice a d.1.length cap, .int .i64 (d.2.1 : Int), .bool d.2.2]) ∧ Sl w' a d.1 ∧ Below w.heap.size w w'

theorem GotL.no {w w' : World} (h : Below w.heap.size w w') : GotL w w' (.returned (.tuple #[.slice none 0 0, .int .i64 0, .bool false])) ([], 0, false) := ⟨none, 0, rfl, Or.inl rfl, h⟩

set_option maxHeartbeats 800000 in
set_option maxRecDepth 100000 in
theorem decodeProps_no (s : ByteArray) (p : Int) (w : World) (h : ¬ ((getAt s.data.toList p).2.2 = true ∧ (getAt s.data.toList p).1 ≤ 8)) :
    Calls Try.prog 26 #[.string s, .int .i64 p] w fun e w' => GotL w w' e ([], 0, false) := by
  have cG := fun w => get_any s p w
  have hlt := getAt_lt s.data.toList p
  generalize getAt s.data.toList p = g at *
  obtain ⟨N, j, ok⟩ := g
  simp only [gotV] at *
  cases ok with
  | false =>
    clear h
    go_enter Try.func26, Try.ntmps26
    go_wp2_with fail
    refine (cG _).mono ?_
    rintro e w1 ⟨rfl, rfl⟩
    go_wp2_with fail
    exact bodyPost_ret (v := .tuple #[.slice none 0 0, .int .i64 0, .bool false]) (by simp [results, Try.results26, go_sem]) rfl (GotL.no (Below.refl _ _))
  | true =>
    have hn : (8 : Int) < (N : Int) := by simp at h; omega
    clear h
    go_enter Try.func26, Try.ntmps26
    go_wp2_with fail
    refine (cG _).mono ?_
    rintro e w1 ⟨rfl, rfl⟩
    go_wp2_with fail
    exact bodyPost_ret (v := .tuple #[.slice none 0 0, .int .i64 0, .bool false]) (by simp [results, Try.results26, go_sem]) rfl (GotL.no (Below.refl _ _))

set_option maxHeartbeats 1600000 in
set_option maxRecDepth 100000 in
theorem decodeProps_yes (s : ByteArray) (P N j : Nat) (w : World) (hs : s.size ≤ 281474976710656) (hg : getAt s.data.toList (P : Int) = (N, j, true)) (hN : N ≤ 8) (hj : P + j ≤ s.size) :
    Calls Try.prog 26 #[.string s, .int .i64 (P : Int)] w fun e w' => GotL w w' e (decE P (decGo s N (P + j))) := by
  obtain ⟨i0, hi, hz0, hz1, hz2⟩ := info_parts Try.info62
  have cG := fun w => get_any s (P : Int) w
  rw [hg] at cG
  simp only [gotV] at cG
  have hn : ¬ (8 : Int) < (N : Int) := by omega
  have HD : Hid (decAt s [] N (P + j) = decGo s N (P + j)) := by simp [decAt, Hid]
  generalize decGo s N (P + j) = D at *
  clear hg
  go_enter Try.func26, Try.ntmps26
  go_wp2_with fail
  refine (cG _).mono ?_
  rintro e w1 ⟨rfl, h1⟩
  rw [h1]
  clear cG h1
  go_wp2_with fail
  clear hn
  go_loopw [4, 5, 25] (fun sl ss sc wr => ∃ (z : Nat) (A : List Pr), A.length ≤ N ∧ sc = .int .u64 (A.length : Int) ∧ ss = .int .i64 (z : Int) ∧ P + z ≤ s.size ∧ DecRow w wr sl A ∧ Hid (decAt s A (N - A.length) (P + z) = D)) (fun _ _ sc _ => N - (intOf sc).toNat)
  case atStart => exact ⟨j, [], Nat.zero_le _, rfl, rfl, hj, ⟨World.ownsRow_nil _ _ _ _, Below.refl _ _⟩, HD⟩
  case round =>
    obtain ⟨z, A, hk, rfl, rfl, hz, hat, HR⟩ := hrel
    obtain ⟨a, cap, hv, hsl⟩ := owns_sl hat.own
    subst hv
    clear HD
    by_cases hlt : A.length < N
    · have cD := fun w => decodeProp_any s (P + z) w hs hz
      have hdin := decP_in s (P + z)
      obtain ⟨r, hr⟩ : ∃ r, N - A.length = r + 1 := ⟨N - A.length - 1, by omega⟩
      have hr' : N - (A.length + 1) = r := by omega
      have hno : (decP s (P + z)).2.2 = false → Hid (D = none) := fun h => by rw [← HR.out, hr]; exact decAt_no s A r _ h
      have hyes : (decP s (P + z)).2.2 = true → Hid (decAt s (A ++ [(decP s (P + z)).1]) r (P + z + (decP s (P + z)).2.1) = D) := fun h => by rw [← HR.out, hr]; exact (decAt_yes s A r _ h).symm
      clear HR hr
      rw [show ((P + z : Nat) : Int) = (P : Int) + (z : Int) by omega] at cD
      have ha : IntKind.i64.wrap ((P : Int) + (z : Int)) = (P : Int) + (z : Int) := by rw [IntKind.wrap_i64]; omega
      generalize decP s (P + z) = d at *
      obtain ⟨⟨m, kk, n, t⟩, sz, ok⟩ := d
      simp only [gotP] at *
      cases ok with
      | false =>
        have HF := hno rfl
        clear hno hyes hdin
        go_wp2_with fail
        refine (cD _).mono ?_
        rintro e w2 ⟨rfl, hb2⟩
        go_wp2_with fail
        refine bodyPost_ret (v := .tuple #[.slice none 0 0, .int .i64 0, .bool false]) (by simp [results, Try.results26, go_sem]) rfl ?_
        rw [HF.out]
        exact GotL.no (below3 hat.root hb2 (below_alloc1 _ _))
      | true =>
        have HF := hyes rfl
        obtain ⟨d1, d2, _⟩ := hdin rfl
        clear hno hyes hdin
        have hb' : IntKind.i64.wrap ((z : Int) + (sz : Int)) = (z : Int) + (sz : Int) := by rw [IntKind.wrap_i64]; omega
        go_wp2_with fail
        refine (cD _).mono ?_
        rintro e w2 ⟨rfl, hb2⟩
        have hat2 := ((hat.below hb2).alloc (.cells #[.string m, .int .i64 kk, .int .i64 n, .string t] 62)).alloc (.cells #[.string m, .int .i64 kk, .int .i64 n, .string t] 62)
        have hA8 : A.length ≤ 8 := by omega
        go_wp2_with (at_builtin; refine wpList_append_own _ rfl (.tmp 38) (.tmp 40) 37 rfl w.heap.size 62 i0 (.agg #[.string ⟨#[]⟩, .int .i64 0, .int .i64 0, .string ⟨#[]⟩]) 4 48 Try.underlying37 hi hz0 hz1 hz2 rfl (by decide) _ A.length (cellsL A) rfl hat2.own ⟨w2.heap.size + 1, 0, none⟩ 1 1 (Pr.cells ⟨m, ⟨kk, n, t⟩⟩) rfl rfl (new4' (p := ⟨m, ⟨kk, n, t⟩⟩) (by simp)) (cells_one _) (by unfold maxLen; omega) (by omega) hat2.root.size ?_; intro v3 w3 hown3 hgrow3 hnil3)
        go_roundw
        case rel => exact ⟨z + sz, A ++ [⟨m, ⟨kk, n, t⟩⟩], by simp; omega, by rw [List.length_append]; go_num, by go_num, by omega, hat2.push hgrow3 hown3, by rw [List.length_append, List.length_singleton, hr', ← Nat.add_assoc]; exact HF⟩
        case measure => simp [intOf]; omega
    · have HF : Hid (D = some (A, P + z)) := by rw [← HR.out, show N - A.length = 0 by omega]; exact decAt_end s A _
      clear HR
      have cP := fun w h => props_any A a cap w h
      cases hp : propsB A with
      | false =>
        rw [hp] at cP
        go_wp2_with fail
        refine (cP _ hsl).mono ?_
        rintro e w2 ⟨rfl, hb2⟩
        go_wp2_with fail
        refine bodyPost_ret (v := .tuple #[.slice none 0 0, .int .i64 0, .bool false]) (by simp [results, Try.results26, go_sem]) rfl ?_
        rw [HF.out]
        simp only [decE, hp]
        exact GotL.no (below2 hat.root hb2)
      | true =>
        rw [hp] at cP
        go_wp2_with fail
        refine (cP _ hsl).mono ?_
        rintro e w2 ⟨rfl, hb2⟩
        go_wp2_with fail
        refine bodyPost_ret (v := .tuple #[.slice a A.length cap, .int .i64 (z : Int), .bool true]) (by simp [results, Try.results26, go_sem]) rfl ?_
        rw [HF.out]
        simp only [decE, hp, if_true]
        rw [show P + z - P = z by omega]
        exact ⟨a, cap, rfl, hsl.kept hb2, below2 hat.root hb2⟩

theorem decodeProps_any (s : ByteArray) (p : Int) (w : World) (hs : s.size ≤ 281474976710656) :
    Calls Try.prog 26 #[.string s, .int .i64 p] w fun e w' => GotL w w' e (decL s p) := by
  have hl : s.data.toList.length = s.size := by simp
  unfold decL
  by_cases h : (getAt s.data.toList p).2.2 = true ∧ (getAt s.data.toList p).1 ≤ 8
  · rw [if_pos h]
    obtain ⟨h0, h1, h2, h3⟩ := getAt_in _ _ h.1
    obtain ⟨P, rfl⟩ := Int.eq_ofNat_of_zero_le h0
    rw [Int.toNat_natCast] at *
    refine decodeProps_yes s P _ _ w hs ?_ h.2 (by omega)
    rw [← h.1]
  · rw [if_neg h]
    exact decodeProps_no s p w h

end Go.Proofs.Ytndbhalkhejgjaa

/- The contract of EncodeProps. -/
import Derived.Test.YtndbhalkhejgjaaVEncL
import Derived.Test.YtndbhalkhejgjaaVPropsC
import Derived.Deep.RegionHeld3
namespace Go.Proofs.Ytndbhalkhejgjaa
open Go.RowKit
attribute [local go_sem ↓] Go.wp_at_zero Go.wp_at_succ

set_option maxHeartbeats 800000 in
set_option maxRecDepth 100000 in
theorem encProps_no (L : List Pr) (a : Option Addr) (cap : Nat) (w : World) (h : Sl w a L) (hp : propsB L = false) :
    Calls Try.prog 24 #[.slice a L.length cap] w fun e w' => e = .returned (.tuple #[.string ⟨#[]⟩, .int .i64 142]) ∧ Below w.heap.size w w' := by
  have cP := fun w h => props_any L a cap w h
  rw [hp] at cP
  go_enter Try.func24, Try.ntmps24
  go_wp2_with fail
  refine (cP _ h).mono ?_
  rintro e w1 ⟨rfl, hb1⟩
  go_wp2_with fail
  exact bodyPost_ret (v := .tuple #[.string ⟨#[]⟩, .int .i64 142]) (by simp [results, Try.results24, go_sem]) rfl ⟨rfl, hb1⟩

set_option maxHeartbeats 800000 in
set_option maxRecDepth 100000 in
theorem encProps_none (a : Option Addr) (cap : Nat) (w : World) :
    Calls Try.prog 24 #[.slice a 0 cap] w fun e w' => e = .returned (.tuple #[.string (ba (encL [])), .int .i64 0]) ∧ Below w.heap.size w w' := by
  have cP := fun w => props_any [] a cap w (Or.inl rfl)
  rw [show propsB [] = true from rfl] at cP
  have cT := fun w => put_S 0 w (ba (encL [])) rfl (by omega) (by omega)
  generalize ba (encL []) = S at *
  go_enter Try.func24, Try.ntmps24
  go_wp2_with fail
  refine (cP _).mono ?_
  rintro e w1 ⟨rfl, hb1⟩
  go_wp2_with fail
  refine (cT _).mono ?_
  rintro e w2 ⟨rfl, hb2⟩
  go_wp2_with fail
  refine wp_loop_rounds 1 ?_
  rw [rounds_succ]
  go_wp2_with fail
  exact bodyPost_ret (v := .tuple #[.string S, .int .i64 0]) (by simp [results, Try.results24, go_sem]) rfl ⟨rfl, below2 hb1 hb2⟩

set_option maxHeartbeats 1600000 in
set_option maxRecDepth 100000 in
theorem encProps_some (L : List Pr) (b off cap : Nat) (w : World) (hb : b < w.heap.size) (hr : Rd w b off L) (hp : propsB L = true) (hN : ∀ p ∈ L, -9223372036854775808 ≤ p.v.n ∧ p.v.n ≤ 9223372036854775807) :
    Calls Try.prog 24 #[.slice (some ⟨b, off, none⟩) L.length cap] w fun e w' => e = .returned (.tuple #[.string (ba (encL L)), .int .i64 0]) ∧ Below w.heap.size w w' := by
  obtain ⟨h8, hgood⟩ := props_parts hp
  have cP := fun w h => props_any L (some ⟨b, off, none⟩) cap w h
  rw [hp] at cP
  have HT := encL_le hp
  have HG : Hid (∀ p ∈ L, nameB p.name = true ∧ goodB p.v = true) := hgood
  have HN : Hid (∀ p ∈ L, -9223372036854775808 ≤ p.v.n ∧ p.v.n ≤ 9223372036854775807) := hN
  have cT := fun w => put_S (L.length : Int) w _ rfl (by omega) (by omega)
  have hw : IntKind.u64.wrap (L.length : Int) = (L.length : Int) := by rw [IntKind.wrap_u64]; omega
  obtain ⟨A0, hA0⟩ : ∃ A0, A0 = enc L.length := ⟨_, rfl⟩
  rw [Int.toNat_natCast, ← hA0] at cT
  have HR : Hid (A0 ++ L.flatMap encP = encL L) := by rw [hA0]; rfl
  have HTot : Hid ((encL L).length ≤ 20000) := HT
  clear hgood hN hp HT hA0
  generalize encL L = T at *
  go_enter Try.func24, Try.ntmps24
  go_wp2_with fail
  refine (cP _ (Or.inr ⟨b, off, rfl, hb, hr⟩)).mono ?_
  rintro e w1 ⟨rfl, hb1⟩
  go_wp2_with fail
  refine (cT _).mono ?_
  rintro e w2 ⟨rfl, hb2⟩
  have hbl0 := below2 hb1 hb2
  clear cT cP hb1 hb2 hw
  go_wp2_with fail
  go_loopw [4, 16] (fun ss si wr => ∃ (k : Nat) (A : List UInt8), k ≤ L.length ∧ si = .int .i64 (k : Int) ∧ ss = .string (ba A) ∧ Hid (A ++ (L.drop k).flatMap encP = T) ∧ Below w.heap.size w wr) (fun _ si _ => L.length - (intOf si).toNat)
  case atStart => exact ⟨0, A0, Nat.zero_le _, rfl, rfl, HR, hbl0⟩
  case round =>
    obtain ⟨k, A, hk, rfl, rfl, HL, hbl⟩ := hrel
    clear HR hbl0
    by_cases hlt : k < L.length
    · obtain ⟨e0, e1, e2, e3⟩ := (hr.kept hbl hb) k L[k] (by simp [hlt])
      have hmem : L[k] ∈ L := List.getElem_mem hlt
      obtain ⟨n1, n2⟩ := HG.out _ hmem
      have n3 := HN.out _ hmem
      have HL2 : Hid ((A ++ (putT L[k].name.data.toList ++ encV L[k].v)) ++ (L.drop (k + 1)).flatMap encP = T) := by
        rw [← HL.out, drop_cons_l L k hlt, List.flatMap_cons, List.append_assoc]
        rfl
      have hlen : A.length + (putT L[k].name.data.toList ++ encV L[k].v).length ≤ 20000 := by
        have h1 := congrArg List.length HL2.out
        have h2 := HTot.out
        rw [List.length_append, List.length_append] at h1
        omega
      clear HL
      generalize L[k] = q at *
      have c1 := fun w => putText_S q.name w _ rfl (by have := (nameB_le _ n1).2; omega)
      have c2 := fun w => encode_any q.v w n3
      have a1 := fun W => run_add_ba (putT q.name.data.toList) (encV q.v) (by rw [List.length_append] at hlen; omega) W
      have a2 := fun W => run_add_ba A (putT q.name.data.toList ++ encV q.v) (by omega) W
      clear n1 n2 n3 hmem hlen
      generalize hX : A ++ (putT q.name.data.toList ++ encV q.v) = X at *
      clear hX
      generalize ba (putT q.name.data.toList ++ encV q.v) = P3 at *
      generalize ba (putT q.name.data.toList) = P1 at *
      generalize ba (encV q.v) = P2 at *
      obtain ⟨m, kk, n, s⟩ := q
      simp only [V.val] at *
      have i0 : (0 : Int) ≤ (k : Int) := by omega
      have i1 : (k : Int) < (L.length : Int) := by omega
      obtain ⟨W0, hW0⟩ : ∃ W0, W0 = wr.alloc (.cells #[.string m, .int .i64 kk, .int .i64 n, .string s] 62) := ⟨_, rfl⟩
      have hbl2 : Below w.heap.size w W0 := by rw [hW0]; exact below2 hbl (below_alloc1 wr _)
      obtain ⟨q0, q1, q2, q3, _, _, _, _⟩ : B4 W0 wr.heap.size (.string m) (.int .i64 kk) (.int .i64 n) (.string s) := by rw [hW0]; exact B4.new wr _ _ _ _ _ rfl
      have y0 : wr.heap.size < W0.heap.size := by rw [hW0]; simp
      go_wp2_with fail
      rw [← hW0]
      clear hW0
      go_region_held3 (fun W => W.cell? ⟨wr.heap.size, 0, none⟩ = some (.string m) ∧ W.cell? ⟨wr.heap.size, 1, none⟩ = some (.int .i64 kk) ∧ W.cell? ⟨wr.heap.size, 2, none⟩ = some (.int .i64 n) ∧ W.cell? ⟨wr.heap.size, 3, none⟩ = some (.string s))
        (first | exact ⟨(hB.cell (p := ⟨wr.heap.size, 0, none⟩) y0).trans q0, (hB.cell (p := ⟨wr.heap.size, 1, none⟩) y0).trans q1, (hB.cell (p := ⟨wr.heap.size, 2, none⟩) y0).trans q2, (hB.cell (p := ⟨wr.heap.size, 3, none⟩) y0).trans q3⟩ | go_keep)
        ((first
          | (go_at_call 49; refine (c1 _).mono ?_; rintro e wA ⟨rfl, hbA⟩; first | have hB := drew_below hbA | have hB := below2 hB hbA)
          | (go_at_call 19; refine (c2 _).mono ?_; rintro e wA ⟨rfl, hbA⟩; first | have hB := drew_below hbA | have hB := below2 hB hbA)))
      all_goals go_wp2_with fail
      all_goals go_roundw
      all_goals first
        | exact ⟨k + 1, X, by omega, by go_num, rfl, HL2, below2 hbl2 hB⟩
        | (simp [intOf]; omega)
    · have HF : Hid (A = T) := by rw [← HL.out, List.drop_of_length_le (by omega)]; simp [Hid]
      clear HL
      go_wp2_with fail
      exact bodyPost_ret (v := .tuple #[.string (ba A), .int .i64 0]) (by simp [results, Try.results24, go_sem]) rfl ⟨by rw [HF.out], hbl⟩

/-- What EncodeProps answers. -/
def encR (L : List Pr) : ByteArray × Int := if propsB L = true then (ba (encL L), 0) else (⟨#[]⟩, 142)

theorem encProps_any (L : List Pr) (a : Option Addr) (cap : Nat) (w : World) (h : Sl w a L) (hN : ∀ p ∈ L, -9223372036854775808 ≤ p.v.n ∧ p.v.n ≤ 9223372036854775807) :
    Calls Try.prog 24 #[.slice a L.length cap] w fun e w' => e = .returned (.tuple #[.string (encR L).1, .int .i64 (encR L).2]) ∧ Below w.heap.size w w' := by
  unfold encR
  cases hp : propsB L with
  | false => exact encProps_no L a cap w h hp
  | true =>
    rw [if_pos rfl]
    rcases h with rfl | ⟨b, off, rfl, hb, hr⟩
    · exact encProps_none a cap w
    · exact encProps_some L b off cap w hb hr hp hN

end Go.Proofs.Ytndbhalkhejgjaa

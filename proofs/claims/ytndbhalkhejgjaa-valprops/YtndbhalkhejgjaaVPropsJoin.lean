/- ValProps: for every input the call returns true, and each argument reads afterwards as it did; no condition. -/
import Derived.Test.YtndbhalkhejgjaaVEncL
import Derived.Test.YtndbhalkhejgjaaVEncProps
import Derived.Test.YtndbhalkhejgjaaVPropsR
import Derived.Test.YtndbhalkhejgjaaVRefEnc
import Derived.Deep.RegionHeld3
import Derived.Test.YtndbhalkhejgjaaVDecProps2
import Derived.Test.YtndbhalkhejgjaaVRefDec2
import Derived.Test.YtndbhalkhejgjaaVWakes
import Derived.Test.YtndbhalkhejgjaaVKeep
import Derived.Test.YtndbhalkhejgjaaVRefSet
import Derived.Laws.Cover1
import Derived.ProofKit
import Derived.OpenShut
import Derived.ShutString
import Derived.ChangeOld
import Derived.Below

section
namespace Go.Proofs.Ytndbhalkhejgjaa
open Go.RowKit
attribute [local go_sem ↓] Go.wp_at_zero Go.wp_at_succ

set_option maxHeartbeats 800000 in
set_option maxRecDepth 100000 in
theorem refEncProps_no (L : List Pr) (a : Option Addr) (cap : Nat) (w : World) (h : Sl w a L) (hS : ∀ p ∈ L, smallP p) (hp : propsB L = false) :
    Calls Try.prog 25 #[.slice a L.length cap] w fun e w' => e = .returned (.tuple #[.string ⟨#[]⟩, .int .i64 142]) ∧ Below w.heap.size w w' := by
  have cP := fun w h => refProps_any L a cap w h hS
  rw [hp] at cP
  go_enter Try.func25, Try.ntmps25
  go_wp2_with fail
  refine (cP _ h).mono ?_
  rintro e w1 ⟨rfl, hb1⟩
  go_wp2_with fail
  exact bodyPost_ret (v := .tuple #[.string ⟨#[]⟩, .int .i64 142]) (by simp [results, Try.results25, go_sem]) rfl ⟨rfl, hb1⟩

set_option maxHeartbeats 800000 in
set_option maxRecDepth 100000 in
theorem refEncProps_none (a : Option Addr) (cap : Nat) (w : World) :
    Calls Try.prog 25 #[.slice a 0 cap] w fun e w' => e = .returned (.tuple #[.string (ba (encL [])), .int .i64 0]) ∧ Below w.heap.size w w' := by
  have cP := fun w => refProps_any [] a cap w (Or.inl rfl) (by simp)
  rw [show propsB [] = true from rfl] at cP
  have cT := fun w => refPut_S 0 w (ba (encL [])) rfl (by omega) (by omega)
  generalize ba (encL []) = S at *
  go_enter Try.func25, Try.ntmps25
  go_wp2_with fail
  refine (cP _).mono ?_
  rintro e w1 ⟨rfl, hb1⟩
  go_wp2_with fail
  refine (cT _).mono ?_
  rintro e w2 ⟨rfl, hb2⟩
  go_wp2_with fail
  refine wp_loop_rounds 1 ?_
  rw [rounds_succ]
  go_wp2_with fail
  exact bodyPost_ret (v := .tuple #[.string S, .int .i64 0]) (by simp [results, Try.results25, go_sem]) rfl ⟨rfl, below2 hb1 hb2⟩

set_option maxHeartbeats 1600000 in
set_option maxRecDepth 100000 in
theorem refEncProps_some (L : List Pr) (b off cap : Nat) (w : World) (hb : b < w.heap.size) (hr : Rd w b off L) (hS : ∀ p ∈ L, smallP p) (hp : propsB L = true) (hN : ∀ p ∈ L, -9223372036854775808 ≤ p.v.n ∧ p.v.n ≤ 9223372036854775807) :
    Calls Try.prog 25 #[.slice (some ⟨b, off, none⟩) L.length cap] w fun e w' => e = .returned (.tuple #[.string (ba (encL L)), .int .i64 0]) ∧ Below w.heap.size w w' := by
  obtain ⟨h8, hgood⟩ := props_parts hp
  have cP := fun w h => refProps_any L (some ⟨b, off, none⟩) cap w h hS
  rw [hp] at cP
  have HT := encL_le hp
  have HG : Hid (∀ p ∈ L, nameB p.name = true ∧ goodB p.v = true) := hgood
  have HN : Hid (∀ p ∈ L, -9223372036854775808 ≤ p.v.n ∧ p.v.n ≤ 9223372036854775807) := hN
  have cT := fun w => refPut_S (L.length : Int) w _ rfl (by omega) (by omega)
  have hw : IntKind.u64.wrap (L.length : Int) = (L.length : Int) := by rw [IntKind.wrap_u64]; omega
  obtain ⟨A0, hA0⟩ : ∃ A0, A0 = enc L.length := ⟨_, rfl⟩
  rw [Int.toNat_natCast, ← hA0] at cT
  have HR : Hid (A0 ++ L.flatMap encP = encL L) := by rw [hA0]; rfl
  have HTot : Hid ((encL L).length ≤ 20000) := HT
  clear hgood hN hp HT hA0 hS
  generalize encL L = T at *
  go_enter Try.func25, Try.ntmps25
  go_wp2_with fail
  refine (cP _ (Or.inr ⟨b, off, rfl, hb, hr⟩)).mono ?_
  rintro e w1 ⟨rfl, hb1⟩
  go_wp2_with fail
  refine (cT _).mono ?_
  rintro e w2 ⟨rfl, hb2⟩
  have hbl0 := below2 hb1 hb2
  clear cT cP hb1 hb2 hw
  go_wp2_with fail
  go_loopw [4, 5] (fun ss si wr => ∃ (k : Nat) (A : List UInt8), k ≤ L.length ∧ si = .int .i64 (k : Int) ∧ ss = .string (ba A) ∧ Hid (A ++ (L.drop k).flatMap encP = T) ∧ Below w.heap.size w wr) (fun _ si _ => L.length - (intOf si).toNat)
  case atStart => exact ⟨0, A0, Nat.zero_le _, rfl, rfl, HR, hbl0⟩
  case round =>
    obtain ⟨k, A, hk, rfl, rfl, HL, hbl⟩ := hrel
    clear HR hbl0
    by_cases hlt : k < L.length
    · obtain ⟨e0, e1, e2, e3⟩ := (hr.kept hbl hb) k L[k] (by simp [hlt])
      have hmem : L[k] ∈ L := List.getElem_mem hlt
      obtain ⟨n1, n2⟩ := HG.out _ hmem
      have n3 := HN.out _ hmem
      have HL2 : Hid ((A ++ (putT L[k].name.data.toList ++ encV L[k].v)) ++ (L.drop (k + 1)).flatMap encP = T) := by
        rw [← HL.out, drop_cons_l L k hlt, List.flatMap_cons, List.append_assoc]
        rfl
      have hlen : A.length + (putT L[k].name.data.toList ++ encV L[k].v).length ≤ 20000 := by
        have h1 := congrArg List.length HL2.out
        have h2 := HTot.out
        rw [List.length_append, List.length_append] at h1
        omega
      clear HL
      generalize L[k] = q at *
      have c1 := fun w => refPutText_S q.name w _ rfl (by have := (nameB_le _ n1).2; omega)
      have c2 := fun w => refEncode_any q.v w n3
      have a1 := fun W => run_add_ba (putT q.name.data.toList) (encV q.v) (by rw [List.length_append] at hlen; omega) W
      have a2 := fun W => run_add_ba A (putT q.name.data.toList ++ encV q.v) (by omega) W
      clear n1 n2 n3 hmem hlen
      generalize hX : A ++ (putT q.name.data.toList ++ encV q.v) = X at *
      clear hX
      generalize ba (putT q.name.data.toList ++ encV q.v) = P3 at *
      generalize ba (putT q.name.data.toList) = P1 at *
      generalize ba (encV q.v) = P2 at *
      obtain ⟨m, kk, n, s⟩ := q
      simp only [V.val] at *
      have i0 : (0 : Int) ≤ (k : Int) := by omega
      have i1 : (k : Int) < (L.length : Int) := by omega
      have y0 : b < wr.heap.size := by have := hbl.size; omega
      go_wp2_with fail
      go_region_held3 (fun W => W.cell? ⟨b, off + k * 4, none⟩ = some (.string m) ∧ W.cell? ⟨b, off + k * 4 + 1, none⟩ = some (.int .i64 kk) ∧ W.cell? ⟨b, off + k * 4 + 2, none⟩ = some (.int .i64 n) ∧ W.cell? ⟨b, off + k * 4 + 3, none⟩ = some (.string s))
        (first | exact ⟨(hB.cell (p := ⟨b, _, none⟩) y0).trans e0, (hB.cell (p := ⟨b, _, none⟩) y0).trans e1, (hB.cell (p := ⟨b, _, none⟩) y0).trans e2, (hB.cell (p := ⟨b, _, none⟩) y0).trans e3⟩ | go_keep)
        ((first
          | (go_at_call 47; refine (c1 _).mono ?_; rintro e wA ⟨rfl, hbA⟩; first | have hB := drew_below hbA | have hB := below2 hB hbA)
          | (go_at_call 20; refine (c2 _).mono ?_; rintro e wA ⟨rfl, hbA⟩; first | have hB := drew_below hbA | have hB := below2 hB hbA)))
      all_goals go_wp2_with fail
      all_goals go_roundw
      all_goals first
        | exact ⟨k + 1, X, by omega, by go_num, rfl, HL2, below2 hbl hB⟩
        | (simp [intOf]; omega)
    · have HF : Hid (A = T) := by rw [← HL.out, List.drop_of_length_le (by omega)]; simp [Hid]
      clear HL
      go_wp2_with fail
      exact bodyPost_ret (v := .tuple #[.string (ba A), .int .i64 0]) (by simp [results, Try.results25, go_sem]) rfl ⟨by rw [HF.out], hbl⟩

theorem refEncProps_any (L : List Pr) (a : Option Addr) (cap : Nat) (w : World) (h : Sl w a L) (hS : ∀ p ∈ L, smallP p) (hN : ∀ p ∈ L, -9223372036854775808 ≤ p.v.n ∧ p.v.n ≤ 9223372036854775807) :
    Calls Try.prog 25 #[.slice a L.length cap] w fun e w' => e = .returned (.tuple #[.string (encR L).1, .int .i64 (encR L).2]) ∧ Below w.heap.size w w' := by
  unfold encR
  cases hp : propsB L with
  | false => exact refEncProps_no L a cap w h hS hp
  | true =>
    rw [if_pos rfl]
    rcases h with rfl | ⟨b, off, rfl, hb, hr⟩
    · exact refEncProps_none a cap w
    · exact refEncProps_some L b off cap w hb hr hS hp hN

end Go.Proofs.Ytndbhalkhejgjaa
end

section
namespace Go.Proofs.Ytndbhalkhejgjaa
open Go.RowKit
attribute [local go_sem ↓] Go.wp_at_zero Go.wp_at_succ

/-- Three cells of one block, none of them frozen. -/
structure R3 (w : World) (b : Nat) (x0 x1 x2 : Value) : Prop where
  c0 : w.cell? ⟨b, 0, none⟩ = some x0
  c1 : w.cell? ⟨b, 1, none⟩ = some x1
  c2 : w.cell? ⟨b, 2, none⟩ = some x2
  f0 : w.frozen? ⟨b, 0, none⟩ = false
  f1 : w.frozen? ⟨b, 1, none⟩ = false
  f2 : w.frozen? ⟨b, 2, none⟩ = false

theorem R3.new (w : World) (x0 x1 x2 : Value) (t : TypeId) {H : Nat} (hH : w.heap.size = H) : R3 (w.alloc (.cells #[x0, x1, x2] t)) H x0 x1 x2 := by
  subst hH
  refine ⟨?_, ?_, ?_, ?_, ?_, ?_⟩ <;> simp

theorem R3.kept {w w' : World} {B b : Nat} {x0 x1 x2 : Value} (h : R3 w b x0 x1 x2) (hb : Below B w w') (hB : b < B) : R3 w' b x0 x1 x2 :=
  ⟨(hb.cell (p := ⟨b, 0, none⟩) hB).trans h.c0, (hb.cell (p := ⟨b, 1, none⟩) hB).trans h.c1, (hb.cell (p := ⟨b, 2, none⟩) hB).trans h.c2,
    (hb.frozen (p := ⟨b, 0, none⟩) hB).trans h.f0, (hb.frozen (p := ⟨b, 1, none⟩) hB).trans h.f1, (hb.frozen (p := ⟨b, 2, none⟩) hB).trans h.f2⟩

theorem below_put3 {w w1 : World} (h : Below w.heap.size w w1) (a b c : Value) :
    Below w.heap.size w (((w1.setCell ⟨w.heap.size, 0, none⟩ a).setCell ⟨w.heap.size, 1, none⟩ b).setCell ⟨w.heap.size, 2, none⟩ c) :=
  ((h.setCell (p := ⟨w.heap.size, 0, none⟩) (Nat.le_refl _) a).setCell (p := ⟨w.heap.size, 1, none⟩) (Nat.le_refl _) b).setCell (p := ⟨w.heap.size, 2, none⟩) (Nat.le_refl _) c

theorem below_put3a {w w1 : World} (h : Below w.heap.size w w1) (a b c : Value) (o : Obj) :
    Below w.heap.size w ((((w1.setCell ⟨w.heap.size, 0, none⟩ a).setCell ⟨w.heap.size, 1, none⟩ b).setCell ⟨w.heap.size, 2, none⟩ c).alloc o) :=
  (below_put3 h a b c).alloc (below_put3 h a b c).size o

/-- What the document's DecodeProps answers. -/
def GotA (w w' : World) (e : Ending) (d : List Pr × Nat × Bool) : Prop := ∃ a cap, e = .returned (.agg #[.slice a d.1.length cap, .int .i64 (d.2.1 : Int), .bool d.2.2]) ∧ Sl w' a d.1 ∧ Below w.heap.size w w'

theorem GotA.no {w w' : World} (h : Below w.heap.size w w') : GotA w w' (.returned (.agg #[.slice none 0 0, .int .i64 0, .bool false])) ([], 0, false) := ⟨none, 0, rfl, Or.inl rfl, h⟩

set_option maxHeartbeats 800000 in
set_option maxRecDepth 100000 in
theorem refDecodeProps_no (s : ByteArray) (p : Int) (w : World) (hs : s.size ≤ 281474976710656) (h : ¬ ((getAt s.data.toList p).2.2 = true ∧ (getAt s.data.toList p).1 ≤ 8)) :
    Calls Try.prog 27 #[.string s, .int .i64 p] w fun e w' => GotA w w' e ([], 0, false) := by
  have cG := fun w => refGet_any s p w hs
  have hlt := getAt_lt s.data.toList p
  generalize getAt s.data.toList p = g at *
  obtain ⟨N, j, ok⟩ := g
  simp only [gotA] at *
  have hn : ok = true → (8 : Int) < (N : Int) := fun e => by rw [e] at h; simp at h; omega
  clear h
  cases ok with
  | false =>
    clear hn
    go_enter Try.func27, Try.ntmps27
    go_wp2_with fail
    refine (cG _).mono ?_
    rintro e w1 ⟨rfl, hb1⟩
    have hR : R3 w1 w.heap.size (.slice none 0 0) (.int .i64 0) (.bool false) := (R3.new w _ _ _ _ rfl).kept hb1 (by simp)
    have hz1 : w.heap.size < w1.heap.size := by have := hb1.size; simp at this; omega
    obtain ⟨r0, r1, r2, f0, f1, f2⟩ := hR
    go_wp2_with fail
    refine bodyPost_ret (v := .agg #[.slice none 0 0, .int .i64 0, .bool false]) (by simp [results, Try.results27, go_sem, hz1, r0, r1, r2]) rfl (GotA.no ?_)
    exact below_put3a (below2 (below_alloc1 w _) hb1) _ _ _ _
  | true =>
    have hn := hn rfl
    go_enter Try.func27, Try.ntmps27
    go_wp2_with fail
    refine (cG _).mono ?_
    rintro e w1 ⟨rfl, hb1⟩
    have hR : R3 w1 w.heap.size (.slice none 0 0) (.int .i64 0) (.bool false) := (R3.new w _ _ _ _ rfl).kept hb1 (by simp)
    have hz1 : w.heap.size < w1.heap.size := by have := hb1.size; simp at this; omega
    obtain ⟨r0, r1, r2, f0, f1, f2⟩ := hR
    go_wp2_with fail
    refine bodyPost_ret (v := .agg #[.slice none 0 0, .int .i64 0, .bool false]) (by simp [results, Try.results27, go_sem, hz1, r0, r1, r2]) rfl (GotA.no ?_)
    exact below_put3a (below2 (below_alloc1 w _) hb1) _ _ _ _

/-- What stands while the document's DecodeProps goes over bytes. -/
theorem grown_cell {W w3 : World} {v : Value} {b j : Nat} (hg : W.grownBy w3 v.ownBlock) (hb : b < W.heap.size) (hne : v.ownBlock ≠ some b) : w3.cell? ⟨b, j, none⟩ = W.cell? ⟨b, j, none⟩ :=
  World.cell?_of_block (w := W) (hg.block b hb (fun h => hne h.symm))

end Go.Proofs.Ytndbhalkhejgjaa
end

section
namespace Go.Proofs.Ytndbhalkhejgjaa
open Go.RowKit
attribute [local go_sem ↓] Go.wp_at_zero Go.wp_at_succ

theorem sl_put3 {W wr w2 : World} {a : Option Addr} {cap H : Nat} {A : List Pr} (hsl : Sl w2 a A) (hat : DecRow W wr (.slice a A.length cap) A) (hH : H < W.heap.size) (x y z : Value) :
    Sl (((w2.setCell ⟨H, 0, none⟩ x).setCell ⟨H, 1, none⟩ y).setCell ⟨H, 2, none⟩ z) a A := by
  rcases hsl with h | ⟨b, off, rfl, hb, hr⟩
  · exact Or.inl h
  · have hne : b ≠ H := by have := (hat.own.lt b rfl).1; omega
    refine Or.inr ⟨b, off, rfl, by simpa using hb, ?_⟩
    intro i p hp
    obtain ⟨e0, e1, e2, e3⟩ := hr i p hp
    exact ⟨(set3_cell hne).trans e0, (set3_cell hne).trans e1, (set3_cell hne).trans e2, (set3_cell hne).trans e3⟩

set_option maxHeartbeats 4000000 in
set_option maxRecDepth 100000 in
theorem refDecodeProps_yes (s : ByteArray) (P N j : Nat) (w : World) (hs : s.size ≤ 281474976710656) (hg : getAt s.data.toList (P : Int) = (N, j, true)) (hN : N ≤ 8) (hj : P + j ≤ s.size) :
    Calls Try.prog 27 #[.string s, .int .i64 (P : Int)] w fun e w' => GotA w w' e (decE P (decGo s N (P + j))) := by
  obtain ⟨i0, hi, hz0, hz1, hz2⟩ := info_parts Try.info62
  have cG := fun w => refGet_any s (P : Int) w hs
  rw [hg] at cG
  simp only [gotA] at cG
  have hn : ¬ (8 : Int) < (N : Int) := by omega
  have HD : Hid (decAt s [] N (P + j) = decGo s N (P + j)) := by simp [decAt, Hid]
  have HFit : Hid (∀ l e, decGo s N (P + j) = some (l, e) → ∀ p ∈ l, Fit p) := fun l e h => (decGo_in s N (P + j) l e h hj).2.2.2
  generalize decGo s N (P + j) = D at *
  have hsum : IntKind.i64.wrap ((P : Int) + (j : Int)) = (P : Int) + (j : Int) := by rw [IntKind.wrap_i64]; omega
  have hcv : IntKind.i64.wrap (N : Int) = (N : Int) := by rw [IntKind.wrap_i64]; omega
  clear hg
  go_enter Try.func27, Try.ntmps27
  go_wp2_with fail
  refine (cG _).mono ?_
  rintro e w1 ⟨rfl, hb1⟩
  clear cG
  have hR1 : R3 w1 w.heap.size (.slice none 0 0) (.int .i64 0) (.bool false) := (R3.new w _ _ _ _ rfl).kept hb1 (by simp)
  have hz : w.heap.size < w1.heap.size := by have := hb1.size; simp at this; omega
  obtain ⟨W, hW⟩ : ∃ W, W = w1.alloc (.cells #[.int .u64 (N : Int), .int .i64 (j : Int), .bool true] 96) := ⟨_, rfl⟩
  have hRW : R3 W w.heap.size (.slice none 0 0) (.int .i64 0) (.bool false) := by rw [hW]; exact hR1.kept (below_alloc1 w1 _) hz
  have hGW : R3 W w1.heap.size (.int .u64 (N : Int)) (.int .i64 (j : Int)) (.bool true) := by rw [hW]; exact R3.new w1 _ _ _ _ rfl
  have hroot : Below w.heap.size w W := by rw [hW]; exact below3 (below_alloc1 w _) hb1 (below_alloc1 w1 _)
  have hzW : w1.heap.size < W.heap.size := by rw [hW]; simp
  have hzw : w.heap.size < W.heap.size := by omega
  clear hb1 hR1 hz
  go_wp2_with fail
  rw [← hW]
  clear hn hW
  go_loopw [6, 7, 8] (fun sl sk sc wr => ∃ (z : Nat) (A : List Pr), A.length ≤ N ∧ sc = .int .i64 (A.length : Int) ∧ sk = .int .i64 ((P : Int) + (z : Int)) ∧ P + z ≤ s.size ∧ DecRow W wr sl A ∧ Hid (decAt s A (N - A.length) (P + z) = D)) (fun _ _ sc _ => N - (intOf sc).toNat)
  case atStart => exact ⟨j, [], Nat.zero_le _, rfl, rfl, hj, ⟨World.ownsRow_nil _ _ _ _, Below.refl _ _⟩, HD⟩
  case round =>
    obtain ⟨z, A, hk, rfl, rfl, hz, hat, HR⟩ := hrel
    obtain ⟨a, cap, hv, hsl⟩ := owns_sl hat.own
    subst hv
    clear HD
    obtain ⟨g0, g1, g2, -, -, -⟩ := hGW.kept hat.root hzW
    have hRr := hRW.kept hat.root hzw
    have yw : w.heap.size < wr.heap.size := by have := hat.root.size; omega
    have y1 : w1.heap.size < wr.heap.size := by have := hat.root.size; omega
    have hbw := hroot.trans (hat.root.mono (by omega))
    by_cases hlt : A.length < N
    · have cT := fun w => refGetText_any s ((P + z : Nat) : Int) 16 w hs (by omega)
      have hin := text_in s.data.toList ((P + z : Nat) : Int) 16
      have hl : s.data.toList.length = s.size := by simp
      have hdin := decP_in s (P + z)
      obtain ⟨r, hr⟩ : ∃ r, N - A.length = r + 1 := ⟨N - A.length - 1, by omega⟩
      have hr' : N - (A.length + 1) = r := by omega
      have hno : (decP s (P + z)).2.2 = false → Hid (D = none) := fun h => by rw [← HR.out, hr]; exact decAt_no s A r _ h
      have hyes : (decP s (P + z)).2.2 = true → Hid (decAt s (A ++ [(decP s (P + z)).1]) r (P + z + (decP s (P + z)).2.1) = D) := fun h => by rw [← HR.out, hr]; exact (decAt_yes s A r _ h).symm
      clear HR hr
      unfold decP at hno hyes hdin
      generalize getTextAt s.data.toList ((P + z : Nat) : Int) 16 = t at *
      obtain ⟨tx, tn, tok⟩ := t
      simp only at *
      cases tok with
      | false =>
        have HF := hno (by simp)
        clear hno hyes hdin hin hl
        rw [show ((P + z : Nat) : Int) = (P : Int) + (z : Int) by omega] at cT
        generalize ba tx = T at *
        go_wp2_with fail
        refine (cT _).mono ?_
        rintro e w2 ⟨rfl, hb2⟩
        have z2 : w.heap.size < w2.heap.size := by have := hb2.size; omega
        obtain ⟨r0, r1, r2, f0, f1, f2⟩ := hRr.kept hb2 yw
        go_wp2_with fail
        refine bodyPost_ret (v := .agg #[.slice none 0 0, .int .i64 0, .bool false]) (by simp [results, Try.results27, go_sem, z2, r0, r1, r2]) rfl ?_
        rw [HF.out]
        exact GotA.no (below_put3a (below2 hbw hb2) _ _ _ _)
      | true =>
        obtain ⟨_, h1, h2, _⟩ := hin rfl
        rw [hl] at h2
        have h3 : P + z + tn ≤ s.size := by omega
        simp only [if_true] at hno hyes hdin
        have cV := fun w => refDecode_any s ((P + z + tn : Nat) : Int) w hs
        clear hin hl h2
        generalize decV s ((P + z + tn : Nat) : Int) = d at *
        obtain ⟨⟨dk, dn, ds⟩, dz, dok⟩ := d
        simp only [gotG] at *
        rw [show ((P + z : Nat) : Int) = (P : Int) + (z : Int) by omega] at cT
        rw [show ((P + z + tn : Nat) : Int) = (P : Int) + (z : Int) + (tn : Int) by omega] at cV
        have ha : IntKind.i64.wrap ((P : Int) + (z : Int) + (tn : Int)) = (P : Int) + (z : Int) + (tn : Int) := by rw [IntKind.wrap_i64]; omega
        cases dok with
        | false =>
          have HF := hno rfl
          clear hno hyes hdin
          generalize ba tx = T at *
          go_wp2_with fail
          refine (cT _).mono ?_
          rintro e w2 ⟨rfl, hb2⟩
          have z2 : w.heap.size < w2.heap.size := by have := hb2.size; omega
          have hR2 := hRr.kept hb2 yw
          go_wp2_with fail
          refine (cV _).mono ?_
          rintro e w3 ⟨rfl, hb3⟩
          have hb3' := below2 (below_alloc1 w2 _) hb3
          have z3 : w.heap.size < w3.heap.size := by have := hb3'.size; omega
          obtain ⟨r0, r1, r2, f0, f1, f2⟩ := hR2.kept hb3' z2
          go_wp2_with fail
          refine bodyPost_ret (v := .agg #[.slice none 0 0, .int .i64 0, .bool false]) (by simp [results, Try.results27, go_sem, z3, r0, r1, r2]) rfl ?_
          rw [HF.out]
          exact GotA.no (below_put3a (below3 hbw hb2 hb3') _ _ _ _)
        | true =>
          have HF := hyes rfl
          obtain ⟨d1, d2, _⟩ := hdin rfl
          clear hno hyes hdin
          have hb' : IntKind.i64.wrap ((tn : Int) + (dz : Int)) = (tn : Int) + (dz : Int) := by rw [IntKind.wrap_i64]; omega
          have hc' : IntKind.i64.wrap ((P : Int) + (z : Int) + ((tn : Int) + (dz : Int))) = (P : Int) + (z : Int) + ((tn : Int) + (dz : Int)) := by rw [IntKind.wrap_i64]; omega
          generalize ba tx = T at *
          go_wp2_with fail
          refine (cT _).mono ?_
          rintro e w2 ⟨rfl, hb2⟩
          go_wp2_with fail
          refine (cV _).mono ?_
          rintro e w3 ⟨rfl, hb3⟩
          obtain ⟨n0, n1, n2, -, -, -⟩ := (R3.new w2 (.string T) (.int .i64 (tn : Int)) (.bool true) 83 rfl).kept hb3 (by simp)
          have z23 : w2.heap.size < w3.heap.size := by have := hb3.size; simp at this; omega
          have hb3' := below2 (below_alloc1 w2 _) hb3
          have hat3 := (hat.below hb2).below hb3'
          have hat4 := (hat3.alloc (.cells #[.int .i64 dk, .int .i64 dn, .string ds, .int .i64 (dz : Int), .bool true] 32)).alloc (.cells #[.string T, .int .i64 dk, .int .i64 dn, .string ds] 62)
          have hA8 : A.length ≤ 8 := by omega
          have hown2 : ∀ b, (Value.slice a A.length cap).ownBlock = some b → b < w2.heap.size := fun b h => by have := (hat.own.lt b h).2; have := hb2.size; omega
          go_wp2_with (at_builtin; refine wpList_append_own _ rfl (.tmp 51) (.tmp 57) 37 rfl W.heap.size 62 i0 (.agg #[.string ⟨#[]⟩, .int .i64 0, .int .i64 0, .string ⟨#[]⟩]) 4 48 Try.underlying37 hi hz0 hz1 hz2 rfl (by decide) _ A.length (cellsL A) rfl hat4.own ⟨w3.heap.size + 1, 0, none⟩ 1 1 (Pr.cells ⟨T, ⟨dk, dn, ds⟩⟩) rfl rfl (new4' (p := ⟨T, ⟨dk, dn, ds⟩⟩) (by simp)) (cells_one _) (by unfold maxLen; omega) (by omega) hat4.root.size ?_; intro v5 w5 hown5 hgrow5 hnil5; have m1 := (grown_cell (b := w2.heap.size) (j := 1) hgrow5 (by simp; omega) (fun h => by have := hown2 _ h; omega)).trans (((alloc_cell (by simp; omega)).trans (alloc_cell z23)).trans n1); have m2 := (grown_cell (b := w3.heap.size) (j := 3) hgrow5 (by simp; omega) (fun h => by have := hown2 _ h; omega)).trans ((alloc_cell (by simp)).trans (show (w3.alloc (.cells #[.int .i64 dk, .int .i64 dn, .string ds, .int .i64 (dz : Int), .bool true] 32)).cell? ⟨w3.heap.size, 3, none⟩ = some (.int .i64 (dz : Int)) by simp)))
          go_roundw
          case rel => exact ⟨z + (tn + dz), A ++ [⟨T, ⟨dk, dn, ds⟩⟩], by simp; omega, by rw [List.length_append]; go_num, by go_num, by omega, hat4.push hgrow5 hown5, by rw [List.length_append, List.length_singleton, hr', ← Nat.add_assoc]; exact HF⟩
          case measure => simp [intOf]; omega
    · have HF : Hid (D = some (A, P + z)) := by rw [← HR.out, show N - A.length = 0 by omega]; exact decAt_end s A _
      have hfit : ∀ p ∈ A, smallP p := fun p hp => (HFit.out A (P + z) HF.out p hp).small
      clear HR
      have cP := fun w h => refProps_any A a cap w h hfit
      have hsub : IntKind.i64.wrap ((P : Int) + (z : Int) - (P : Int)) = (z : Int) := by rw [IntKind.wrap_i64]; omega
      cases hp : propsB A with
      | false =>
        rw [hp] at cP
        go_wp2_with fail
        refine (cP _ hsl).mono ?_
        rintro e w2 ⟨rfl, hb2⟩
        have z2 : w.heap.size < w2.heap.size := by have := hb2.size; omega
        obtain ⟨r0, r1, r2, f0, f1, f2⟩ := hRr.kept hb2 yw
        go_wp2_with fail
        refine bodyPost_ret (v := .agg #[.slice none 0 0, .int .i64 0, .bool false]) (by simp [results, Try.results27, go_sem, r0, r1, r2]) rfl ?_
        rw [HF.out]
        simp only [decE, hp]
        exact GotA.no (below_put3 (below2 hbw hb2) _ _ _)
      | true =>
        rw [hp] at cP
        go_wp2_with fail
        refine (cP _ hsl).mono ?_
        rintro e w2 ⟨rfl, hb2⟩
        have z2 : w.heap.size < w2.heap.size := by have := hb2.size; omega
        obtain ⟨r0, r1, r2, f0, f1, f2⟩ := hRr.kept hb2 yw
        go_wp2_with fail
        refine bodyPost_ret (v := .agg #[.slice a A.length cap, .int .i64 (z : Int), .bool true]) (by simp [results, Try.results27, go_sem, r0, r1, r2]) rfl ?_
        rw [HF.out]
        simp only [decE, hp, if_true]
        rw [show P + z - P = z by omega]
        refine ⟨a, cap, rfl, ?_, below_put3 (below2 hbw hb2) _ _ _⟩
        exact sl_put3 (hsl.kept hb2) hat hzw _ _ _

theorem refDecodeProps_any (s : ByteArray) (p : Int) (w : World) (hs : s.size ≤ 281474976710656) :
    Calls Try.prog 27 #[.string s, .int .i64 p] w fun e w' => GotA w w' e (decL s p) := by
  have hl : s.data.toList.length = s.size := by simp
  unfold decL
  by_cases h : (getAt s.data.toList p).2.2 = true ∧ (getAt s.data.toList p).1 ≤ 8
  · rw [if_pos h]
    obtain ⟨h0, h1, h2, h3⟩ := getAt_in _ _ h.1
    obtain ⟨P, rfl⟩ := Int.eq_ofNat_of_zero_le h0
    rw [Int.toNat_natCast] at *
    refine refDecodeProps_yes s P _ _ w hs ?_ h.2 (by omega)
    rw [← h.1]
  · rw [if_neg h]
    exact refDecodeProps_no s p w hs h

end Go.Proofs.Ytndbhalkhejgjaa
end

section
namespace Go.Proofs.Ytndbhalkhejgjaa
open Go.RowKit
attribute [local go_sem ↓] Go.wp_at_zero Go.wp_at_succ

set_option maxHeartbeats 800000 in
set_option maxRecDepth 100000 in
theorem props_large (L : List Pr) (a : Option Addr) (cap : Nat) (s : ByteArray) (p : Int) (w : World) (hsl : Sl w a L) (h : largeL L = true ∨ 100000 < s.size) :
    Calls Try.prog 5 #[.slice a L.length cap, .string s, .int .i64 p] w fun e w' => e = .returned (.bool true) ∧ Below w.heap.size w w' := by
  have cW := fun w => vwakes_any w
  have cL := fun w h => largeProps_any L a cap w h
  cases hL : largeL L with
  | true =>
    rw [hL] at cL
    clear h hL
    go_enter Try.func5, Try.ntmps5
    go_wp2_with fail
    refine (cL _ hsl).mono ?_
    rintro e w1 ⟨rfl, hb1⟩
    go_wp2_with fail
    refine (cW _).mono ?_
    rintro e w2 ⟨rfl, hb2⟩
    go_wp2_with fail
    go_ret
    exact ⟨rfl, below2 hb1 hb2⟩
  | false =>
    rw [hL] at cL
    have hs : (100000 : Int) < (s.size : Int) := by
      rcases h with h | h
      · rw [hL] at h; cases h
      · omega
    clear h hL
    go_enter Try.func5, Try.ntmps5
    go_wp2_with fail
    refine (cL _ hsl).mono ?_
    rintro e w1 ⟨rfl, hb1⟩
    go_wp2_with fail
    refine (cW _).mono ?_
    rintro e w2 ⟨rfl, hb2⟩
    go_wp2_with fail
    go_ret
    exact ⟨rfl, below2 hb1 hb2⟩

set_option maxHeartbeats 4000000 in
set_option maxRecDepth 100000 in
theorem props_in (L : List Pr) (a : Option Addr) (cap : Nat) (s : ByteArray) (p : Int) (w : World) (hsl : Sl w a L) (hcap : a = none → cap = 0) (hN : ∀ p ∈ L, -9223372036854775808 ≤ p.v.n ∧ p.v.n ≤ 9223372036854775807) (hL : largeL L = false) (hs : ¬ 100000 < s.size) :
    Calls Try.prog 5 #[.slice a L.length cap, .string s, .int .i64 p] w fun e w' => e = .returned (.bool true) ∧ Below w.heap.size w w' := by
  obtain ⟨h60, hsm⟩ := largeL_no hL
  have hS : ∀ p ∈ L, smallP p := fun p hp => ⟨by have := (hsm p hp).1; omega, by have := (hsm p hp).2; omega⟩
  have cW := fun w => vwakes_any w
  have cL := fun w h => largeProps_any L a cap w h
  rw [hL] at cL
  have cF := fun w h => few_any L a cap w h hcap (by omega)
  have cE := fun a' c' w h => encProps_any L a' c' w h hN
  have cRE := fun w h => refEncProps_any L a cap w h hS hN
  have cD := fun w => decodeProps_any s p w (by omega)
  have cRD := fun w => refDecodeProps_any s p w (by omega)
  have cP := fun a' c' w h => props_any L a' c' w h
  have cRP := fun w h => refProps_any L a cap w h hS
  have hl8 : (decL s p).1.length ≤ 1000000 := by
    unfold decL
    split
    · rename_i hg
      unfold decE
      split
      · rename_i l e he
        split
        · rename_i hp
          have := (props_parts hp).1
          simp only
          omega
        · simp
      · simp
    · simp
  have cKD := fun aX aY cX cY w h h' => keepProps_any (decL s p).1 aX aY cX cY w h h' hl8
  have cKI := fun aX cX w h h' => keepProps_any L aX a cX cap w h h' (by omega)
  have hs' : ¬ (100000 : Int) < (s.size : Int) := by omega
  clear hL hs hsm hS h60 hcap hN hl8
  generalize decL s p = d at *
  generalize encR L = r at *
  generalize propsB L = g at *
  obtain ⟨D, dz, dok⟩ := d
  obtain ⟨R, rc⟩ := r
  simp only at *
  go_enter Try.func5, Try.ntmps5
  go_wp2_with fail
  refine (cL _ hsl).mono ?_
  rintro e w1 ⟨rfl, hb1⟩
  have hsl := hsl.kept hb1
  have hR := hb1
  go_wp2_with fail
  refine (cF _ hsl).mono ?_
  rintro e w2 ⟨a', c', rfl, sli, hb2⟩
  have hsl := hsl.kept hb2
  have hR := below2 hR hb2
  go_wp2_with fail
  refine (cE a' c' _ sli).mono ?_
  rintro e w3 ⟨rfl, hb3⟩
  have hsl := hsl.kept hb3
  have sli := sli.kept hb3
  have hR := below2 hR hb3
  go_wp2_with fail
  refine (cRE _ hsl).mono ?_
  rintro e w4 ⟨rfl, hb4⟩
  have hsl := hsl.kept hb4
  have sli := sli.kept hb4
  have hR := below2 hR hb4
  go_wp2_with fail
  refine (cD _).mono ?_
  rintro e w5 ⟨aX, cX, rfl, slX, hb5⟩
  have hsl := hsl.kept hb5
  have sli := sli.kept hb5
  have hR := below2 hR hb5
  go_wp2_with fail
  refine (cRD _).mono ?_
  rintro e w6 ⟨aY, cY, rfl, slY, hb6⟩
  have hb6' := below_alloc1 w6 (.cells #[.slice aY D.length cY, .int .i64 (dz : Int), .bool dok] 48)
  have hsl := (hsl.kept hb6).kept hb6'
  have sli := (sli.kept hb6).kept hb6'
  have slX := (slX.kept hb6).kept hb6'
  have slY := slY.kept hb6'
  have hR := below2 (below2 hR hb6) hb6'
  have hG := R3.new w6 (.slice aY D.length cY) (.int .i64 (dz : Int)) (.bool dok) 48 rfl
  have y : w6.heap.size < (w6.alloc (.cells #[.slice aY D.length cY, .int .i64 (dz : Int), .bool dok] 48)).heap.size := by simp
  obtain ⟨W, hW⟩ : ∃ W, W = w6.alloc (.cells #[.slice aY D.length cY, .int .i64 (dz : Int), .bool dok] 48) := ⟨_, rfl⟩
  clear cL cF cE cRE cD cRD hb1 hb2 hb3 hb4 hb5 hb6 hb6'
  rw [← hW] at hsl sli slX slY hR hG y
  go_wp2_with fail
  rw [← hW]
  clear hW
  refine (cP a' c' _ sli).mono ?_
  rintro e w7 ⟨rfl, hb7⟩
  have hsl := hsl.kept hb7
  have sli := sli.kept hb7
  have slX := slX.kept hb7
  have slY := slY.kept hb7
  have hR := below2 hR hb7
  have hG := hG.kept hb7 y
  have y : w6.heap.size < w7.heap.size := by have := hb7.size; omega
  clear hb7
  go_wp2_with fail
  refine (cRP _ hsl).mono ?_
  rintro e w8 ⟨rfl, hb8⟩
  have hsl := hsl.kept hb8
  have sli := sli.kept hb8
  have slX := slX.kept hb8
  have slY := slY.kept hb8
  have hR := below2 hR hb8
  have hG := hG.kept hb8 y
  have y : w6.heap.size < w8.heap.size := by have := hb8.size; omega
  clear hb8
  obtain ⟨g0, g1, g2, -, -, -⟩ := id hG
  go_wp2_with fail
  refine (cKD aX aY cX cY _ slX slY).mono ?_
  rintro e w9 ⟨rfl, hb9⟩
  have hsl := hsl.kept hb9
  have sli := sli.kept hb9
  have hR := below2 hR hb9
  have hG := hG.kept hb9 y
  clear hb9 g0 g1 g2
  obtain ⟨g0, g1, g2, -, -, -⟩ := id hG
  go_wp2_with fail
  refine (cKI a' c' _ sli hsl).mono ?_
  rintro e w10 ⟨rfl, hb10⟩
  have hR := below2 hR hb10
  go_wp2_with fail
  refine (cW _).mono ?_
  rintro e w11 ⟨rfl, hb11⟩
  go_wp2_with fail
  go_ret
  exact ⟨rfl, below2 hR hb11⟩

set_option maxRecDepth 100000 in
theorem props_open (v0 : Value) (s : ByteArray) (p : Int) (W : World) {H : Type} {enc : TypeId × Value → H} {base : Nat} {d0 : DataW H} {p0 : List MemPlace}
    (hv0 : Value.okWide Try.prog W .any base 37 v0) (h0 : DataW.Trod enc Try.prog W 0 (fun _ => true) true 37 v0 d0 p0) (_hs : s.size ≤ maxLen) (_hp : -9223372036854775808 ≤ p ∧ p ≤ 9223372036854775807) :
    Calls Try.prog 5 #[v0, .string s, .int .i64 p] W fun e w' => e = .returned (.bool true) ∧ Below W.heap.size W w' := by
  obtain ⟨a, L, cap, rfl, hsl, hok, _, hcap⟩ := open_props hv0 h0
  by_cases h : largeL L = true ∨ 100000 < s.size
  · exact props_large L a cap s p W hsl h
  · exact props_in L a cap s p W hsl hcap (fun p hp => ⟨(hok p hp).1.n0, (hok p hp).1.n1⟩) (by cases hL : largeL L with | false => rfl | true => exact absurd (Or.inl hL) h) (by omega)

end Go.Proofs.Ytndbhalkhejgjaa
end

section
namespace Go.Proofs.Ytndbhalkhejgjaa.valProps
open Go.ChangeShapes Go.WideShapes Go.ChangeAt Go.RowKit
open Go.ChangeMaps (open_string shut_string)

theorem own : ownKnob Try.prog.godebug = none := by kernel_rfl
theorem laidOut : laidOutB Try.prog = true := by kernel_rfl

set_option maxRecDepth 100000 in
theorem lifted (os : Os) (started : os.Started) (H : Type) (enc : TypeId × Value → H) :
    ReturnsInHanded {} Try.checked os 5 .any (Rows.valPropsSpec.pre6 enc Try.prog Try.f5 Rows.valPropsRow.domain false) (Rows.valPropsSpec.post enc Try.prog Try.f5 false true false false) := by
  refine returnsInHanded_of_change (C := Try.checked) own started (by kernel_rfl) Try.func5
    (ChangeSpec.witness6 (enc := enc) (C := Try.checked) false ⟨#[], #[.slice none 0 0, .string ByteArray.empty, .int .i64 0], []⟩ 8 (by kernel_rfl) (by kernel_rfl) (by kernel_rfl) (by kernel_rfl)) ?_
  intro W base args ds gs before hval0 hW hcnd _
  have hval : ∀ (j : Nat) t v, Try.f5.params[j]? = some t → args[j]? = some v → Value.okWide Try.prog W .any base t v := hval0
  have hW' := hW
  obtain ⟨p, q, hA0, hV, rfl, hfz, hnd⟩ := hW
  have hA : DataW.TrodAll enc Try.prog W 0 (fun _ => true) true Try.f5.params.toList args.toList ds p := hA0
  rw [Try.params5] at hA hval
  obtain ⟨v0, vs0, d0, ds0, p0, q0, hargs, rfl, rfl, h0, r0⟩ := trodAll_cons hA
  obtain ⟨v1, vs1, d1, ds1, p1, q1, rfl, rfl, rfl, h1, r1⟩ := trodAll_cons r0
  obtain ⟨v2, vs2, d2, ds2, p2, q2, rfl, rfl, rfl, h2, r2⟩ := trodAll_cons r1
  obtain ⟨rfl, rfl, rfl⟩ := trodAll_nil r2
  obtain rfl : args = #[v0, v1, v2] := by cases args; simp_all
  obtain ⟨rfl, rfl⟩ := trodVars_none hV
  have k0 := h0
  have lt0 : ∀ x ∈ p0, x.block < W.heap.size := by obtain ⟨m, hm⟩ := k0; exact DataW.trod_lt m _ _ _ hm
  obtain ⟨a1, rfl, rfl, rfl, w1⟩ := open_string Try.underlying9 (hval 1 9 v1 rfl rfl) h1
  obtain ⟨a2, rfl, rfl, rfl, w2⟩ := open_int Try.underlying3 (hval 2 3 v2 rfl rfl) h2
  clear hA0 hval0
  refine (props_open v0 a1 a2 W (hval 0 37 v0 rfl rfl) h0 w1 (bounds_i64 w2)).mono fun e W' ⟨he, bel⟩ => ?_
  subst he
  exact ⟨_, rfl, _, _, _, [], _, [], hW', trodAll_mk1 (shut_bool Try.underlying4 _), (trodAll_cons_mk (Below.trod laidOut (by kernel_rfl) (of_decide_eq_true (by kernel_rfl)) k0 bel lt0) (trodAll_cons_mk (shut_string Try.underlying9 w1) (trodAll_cons_mk (shut_int Try.underlying3 w2) trodAll_mk0))), rfl, bel.frame _, fun h => by cases h⟩

theorem over : Rows.valPropsRow.holds Try.pinned (OpenSpec.ofChange Rows.valPropsSpec) :=
  OpenClaim.holds_of_wide 5 Try.f5 rfl rfl rfl rfl rfl rfl rfl ⟨rfl, rfl, rfl, rfl, rfl⟩ rfl rfl rfl rfl rfl (by kernel_rfl) Try.func5 (by kernel_rfl)
    (of_decide_eq_true (by kernel_rfl)) (by unfold Func.isWrapper; first | (rw [if_pos (by decide +kernel)]; kernel_rfl) | (rw [if_neg (by decide +kernel)]; exact ⟨rfl, rfl⟩))
    (fun os started H enc _ => lifted os started H enc)

end Go.Proofs.Ytndbhalkhejgjaa.valProps
namespace Go.Proofs.Ytndbhalkhejgjaa
theorem valProps_holds : Rows.ValPropsSaid := valProps.over
#print axioms valProps_holds
end Go.Proofs.Ytndbhalkhejgjaa
end

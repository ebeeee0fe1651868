/- PoolPlays: for every input the call returns true, and each argument reads afterwards as it did; no condition. -/
import Derived.Test.YtghocbaafdnddaaGreatRPin2
import Derived.Test.YtghocbaafdnddaaGreatQWakes
import Derived.Deep.Slices
import Derived.Deep.Strs
import Derived.Lib.SmallJoins
import Derived.ProofKit
import Derived.OpenShut
import Derived.ShutString
import Derived.Laws.Cover1
import Derived.ChangeOld
import Derived.Below

section
namespace Go.Proofs.YtghocbaafdnddaaGreat
open Go.RowKit

section
variable {B bd : Nat} {w : World} {y : RX} {S : St}

theorem rpin_any (h : Rp B w y) (k : Rs S y) (ho : OkS bd S) (hbd : bd ≤ 90000) (hB : B ≤ w.heap.size) (a : Int) :
    Calls Tryz.prog 10 #[.pointer (some ⟨y.q, 0, none⟩), .int .i64 a] w fun e w' => e = .returned (.tuple #[.string (pinS S a).1.1, .int .i64 (pinS S a).1.2]) ∧ ∃ y', RpTo B w y y' w' ∧ Rs (pinS S a).2 y' := by
  have hl64 : y.l.length ≤ 64 := by rw [k.l]; have := ho.len; have := ho.n; omega
  by_cases ha : 0 ≤ a ∧ a < (S.D.n : Int)
  · obtain ⟨j, rfl⟩ : ∃ j : Nat, a = (j : Int) := ⟨a.toNat, by omega⟩
    have hj : j < S.D.n := by omega
    cases hx : idx S.l (j : Int) with
    | none =>
      by_cases hr : S.l.length = S.n
      · exact rpin_full h k ho hbd hB j hj hx hr
      · exact rpin_room h k ho hbd hB j hj hx hr
    | some i =>
      obtain ⟨f, hf, hfa, hbef⟩ := idx_some hx
      have e : pinS S (j : Int) = ((f.s, 0), { S with l := S.l.eraseIdx i ++ [{ f with pins := f.pins + 1 }] }) := by
        unfold pinS; rw [if_pos ha, hx]; simp only; rw [hf]
      rw [e]
      obtain ⟨p1, p2, p3⟩ := ho.pg f (List.mem_of_getElem? hf)
      refine (rpin_held h hl64 hB j (by rw [← k.rel.n]; exact hj) i f (by rw [k.l]; exact hf) (by rw [k.l]; unfold idxI; rw [hx]) (by omega)).mono ?_
      rintro e w' ⟨rfl, lv, t⟩
      exact ⟨rfl, _, t, ⟨k.n, by show y.l.eraseIdx i ++ _ = _; rw [k.l], k.rd, k.wr, k.rel⟩⟩
  · have e : pinS S a = ((⟨#[]⟩, 40), S) := by unfold pinS; rw [if_neg ha]
    rw [e]
    refine (rpin_place h a (by rw [← k.rel.n]; exact ha)).mono ?_
    rintro e w' ⟨rfl, rfl⟩
    exact ⟨rfl, y, RpTo.refl h, k⟩

set_option maxHeartbeats 1600000 in
set_option maxRecDepth 100000 in
theorem rset_none (h : Rp B w y) (hl : y.l.length ≤ 64) (a : Int) (s : ByteArray) (hx : idxI y.l a = -1) :
    Calls Tryz.prog 13 #[.pointer (some ⟨y.q, 0, none⟩), .int .i64 a, .string s] w fun e w' => e = .returned (.int .i64 60) ∧ w' = w := by
  have cF := rfind_any h (by omega) a (-1) hx
  clear h hx hl
  go_enter Tryz.func13, Tryz.ntmps13
  go_wp2_with fail
  refine cF.mono ?_
  rintro e w2 ⟨rfl, e2⟩
  rw [e2]
  clear e2 cF
  go_wp2_with fail
  go_ret
  exact ⟨rfl, rfl⟩

set_option maxHeartbeats 1600000 in
set_option maxRecDepth 100000 in
theorem rset_at (h : Rp B w y) (hl : y.l.length ≤ 64) (hB : B ≤ w.heap.size) (a : Int) (s : ByteArray) (i : Nat) (f : Fm) (hi : y.l[i]? = some f) (hx : idxI y.l a = (i : Int)) :
    Calls Tryz.prog 13 #[.pointer (some ⟨y.q, 0, none⟩), .int .i64 a, .string s] w fun e w' => (f.pins = 0 → e = .returned (.int .i64 60) ∧ w' = w) ∧ (f.pins ≠ 0 → s.size ≠ 512 → e = .returned (.int .i64 2) ∧ w' = w) ∧
      (f.pins ≠ 0 → s.size = 512 → e = .returned (.int .i64 0) ∧ ∃ lv, RpTo B w y { y with lv := lv, l := y.l.eraseIdx i ++ [{ f with s := s, dirty := true }] } w') := by
  have cF := rfind_any h (by omega) a (i : Int) hx
  have hlt : i < y.l.length := (List.getElem?_eq_some_iff.1 hi).1
  obtain ⟨z, hz⟩ : ∃ z, z + 1 = y.l.length := ⟨y.l.length - 1, by omega⟩
  have cU := used_any h hl hB i z f hi hz
  obtain ⟨_, _, c2, _, _⟩ := h.cell
  obtain ⟨ra, rc, ev, hsc, _, _, _, _, _, k1, _⟩ := h.at hi
  rw [ev] at c2
  have hlt2 : (i : Int) < (y.l.length : Int) := by omega
  have hzl : (y.l.eraseIdx i).length = z := by rw [List.length_eraseIdx_of_lt hlt]; omega
  have HZ : Hid ((y.l.eraseIdx i).length = z ∧ z + 1 = y.l.length) := ⟨hzl, hz⟩
  clear h hl hi hx hz hzl
  by_cases hp : f.pins = 0
  · have k1z : w.cell? ⟨ra, i * 4 + 1, none⟩ = some (.int .i64 0) := by rw [k1, hp]; rfl
    have HP : Hid (f.pins = 0) := hp
    clear k1 hp cU
    go_enter Tryz.func13, Tryz.ntmps13
    go_wp2_with fail
    refine cF.mono ?_
    rintro e w2 ⟨rfl, e2⟩
    rw [e2]
    clear e2 cF
    go_wp2_with fail
    go_ret
    exact ⟨fun _ => ⟨rfl, rfl⟩, fun q => absurd HP.out q, fun q => absurd HP.out q⟩
  · have hp2 : ((f.pins : Int) == 0) = false := by rw [beq_eq_false_iff_ne]; omega
    have HP : Hid (f.pins ≠ 0) := hp
    by_cases hs : s.size = 512
    · have HS : Hid (s.size = 512) := hs
      have hs2 : ((s.size : Int) == 512) = true := by rw [beq_iff_eq]; omega
      clear hp hs
      go_enter Tryz.func13, Tryz.ntmps13
      go_wp2_with fail
      refine cF.mono ?_
      rintro e w2 ⟨rfl, e2⟩
      rw [e2]
      clear e2 cF
      go_wp2_with fail
      refine cU.mono ?_
      rintro e w3 ⟨b, c, rfl, t3⟩
      clear cU
      have T3 : Hid (RpTo B w y _ w3) := t3
      obtain ⟨_, k1', k2, k3, kf, ks⟩ := t3.pd.last (A := y.l.eraseIdx i) (f := f) (z := z) (n := y.l.length) rfl HZ.out.1 (by rw [List.length_append, HZ.out.1]; exact HZ.out.2) rfl
      have hf2 := kf (z * 4 + 2)
      have hf3 := kf (z * 4 + 3)
      have t4 := ks 2 (.string s) { f with s := s } (by decide) rfl
      have T4 : Hid (RpTo B w3 _ _ (w3.setCell ⟨b, z * 4 + 2, none⟩ (.string s))) := t4
      obtain ⟨_, _, _, _, _, ks'⟩ := t4.pd.last (A := y.l.eraseIdx i) (f := { f with s := s }) (z := z) (n := y.l.length) rfl HZ.out.1 (by rw [List.length_append, HZ.out.1]; exact HZ.out.2) rfl
      have T5 : Hid (RpTo B (w3.setCell ⟨b, z * 4 + 2, none⟩ (.string s)) _ _ ((w3.setCell ⟨b, z * 4 + 2, none⟩ (.string s)).setCell ⟨b, z * 4 + 3, none⟩ (.bool true))) := ks' 3 (.bool true) { f with s := s, dirty := true } (by decide) rfl
      clear t3 t4 ks ks' kf
      go_wp2_with fail
      go_ret
      exact ⟨fun q => absurd q HP.out, fun _ q => absurd HS.out q, fun _ _ => ⟨rfl, _, T3.out.trans (T4.out.trans T5.out)⟩⟩
    · have HS : Hid (s.size ≠ 512) := hs
      have hs2 : ((s.size : Int) == 512) = false := by rw [beq_eq_false_iff_ne]; omega
      clear hp hs cU
      go_enter Tryz.func13, Tryz.ntmps13
      go_wp2_with fail
      refine cF.mono ?_
      rintro e w2 ⟨rfl, e2⟩
      rw [e2]
      clear e2 cF
      go_wp2_with fail
      go_ret
      exact ⟨fun q => absurd q HP.out, fun _ _ => ⟨rfl, rfl⟩, fun _ q => absurd q HS.out⟩

theorem rset_any (h : Rp B w y) (k : Rs S y) (ho : OkS bd S) (hB : B ≤ w.heap.size) (a : Int) (s : ByteArray) :
    Calls Tryz.prog 13 #[.pointer (some ⟨y.q, 0, none⟩), .int .i64 a, .string s] w fun e w' => e = .returned (.int .i64 (setS S a s).1) ∧ ∃ y', RpTo B w y y' w' ∧ Rs (setS S a s).2 y' := by
  have hl64 : y.l.length ≤ 64 := by rw [k.l]; have := ho.len; have := ho.n; omega
  unfold setS
  cases hx : idx S.l a with
  | none =>
    refine (rset_none h hl64 a s (by rw [k.l]; unfold idxI; rw [hx])).mono ?_
    rintro e w' ⟨rfl, rfl⟩
    exact ⟨rfl, y, RpTo.refl h, k⟩
  | some i =>
    obtain ⟨f, hf, hfa, hbef⟩ := idx_some hx
    simp only
    rw [hf]
    simp only
    refine (rset_at h hl64 hB a s i f (by rw [k.l]; exact hf) (by rw [k.l]; unfold idxI; rw [hx])).mono ?_
    rintro e w' ⟨h1, h2, h3⟩
    by_cases hp : f.pins = 0
    · rw [if_pos hp]
      obtain ⟨rfl, rfl⟩ := h1 hp
      exact ⟨rfl, y, RpTo.refl h, k⟩
    · rw [if_neg hp]
      by_cases hs : s.size = 512
      · rw [if_neg (fun q => q hs)]
        obtain ⟨rfl, lv, t⟩ := h3 hp hs
        exact ⟨rfl, _, t, ⟨k.n, by show y.l.eraseIdx i ++ _ = _; rw [k.l], k.rd, k.wr, k.rel⟩⟩
      · rw [if_pos hs]
        obtain ⟨rfl, rfl⟩ := h2 hp hs
        exact ⟨rfl, y, RpTo.refl h, k⟩

set_option maxHeartbeats 1600000 in
set_option maxRecDepth 100000 in
theorem runpin_none (h : Rp B w y) (hl : y.l.length ≤ 64) (a : Int) (hx : idxI y.l a = -1) :
    Calls Tryz.prog 15 #[.pointer (some ⟨y.q, 0, none⟩), .int .i64 a] w fun e w' => e = .returned (.int .i64 60) ∧ w' = w := by
  have cF := rfind_any h (by omega) a (-1) hx
  clear h hx hl
  go_enter Tryz.func15, Tryz.ntmps15
  go_wp2_with fail
  refine cF.mono ?_
  rintro e w2 ⟨rfl, e2⟩
  rw [e2]
  clear e2 cF
  go_wp2_with fail
  go_ret
  exact ⟨rfl, rfl⟩

set_option maxHeartbeats 1600000 in
set_option maxRecDepth 100000 in
theorem runpin_at (h : Rp B w y) (hl : y.l.length ≤ 64) (hB : B ≤ w.heap.size) (a : Int) (i : Nat) (f : Fm) (hi : y.l[i]? = some f) (hx : idxI y.l a = (i : Int)) (hpb : f.pins ≤ 100000) :
    Calls Tryz.prog 15 #[.pointer (some ⟨y.q, 0, none⟩), .int .i64 a] w fun e w' => (f.pins = 0 → e = .returned (.int .i64 60) ∧ w' = w) ∧
      (f.pins ≠ 0 → e = .returned (.int .i64 0) ∧ ∃ lv, RpTo B w y { y with lv := lv, l := y.l.eraseIdx i ++ [{ f with pins := f.pins - 1 }] } w') := by
  have cF := rfind_any h (by omega) a (i : Int) hx
  have hlt : i < y.l.length := (List.getElem?_eq_some_iff.1 hi).1
  obtain ⟨z, hz⟩ : ∃ z, z + 1 = y.l.length := ⟨y.l.length - 1, by omega⟩
  have cU := used_any h hl hB i z f hi hz
  obtain ⟨_, _, c2, _, _⟩ := h.cell
  obtain ⟨ra, rc, ev, hsc, _, _, _, _, _, k1, _⟩ := h.at hi
  rw [ev] at c2
  have hlt2 : (i : Int) < (y.l.length : Int) := by omega
  have hzl : (y.l.eraseIdx i).length = z := by rw [List.length_eraseIdx_of_lt hlt]; omega
  have HZ : Hid ((y.l.eraseIdx i).length = z ∧ z + 1 = y.l.length) := ⟨hzl, hz⟩
  clear h hl hi hx hz hzl
  by_cases hp : f.pins = 0
  · have k1z : w.cell? ⟨ra, i * 4 + 1, none⟩ = some (.int .i64 0) := by rw [k1, hp]; rfl
    have HP : Hid (f.pins = 0) := hp
    clear k1 hp cU
    go_enter Tryz.func15, Tryz.ntmps15
    go_wp2_with fail
    refine cF.mono ?_
    rintro e w2 ⟨rfl, e2⟩
    rw [e2]
    clear e2 cF
    go_wp2_with fail
    go_ret
    exact ⟨fun _ => ⟨rfl, rfl⟩, fun q => absurd HP.out q⟩
  · have hp2 : ((f.pins : Int) == 0) = false := by rw [beq_eq_false_iff_ne]; omega
    have HP : Hid (f.pins ≠ 0) := hp
    obtain ⟨p1, hp1⟩ : ∃ p1, f.pins - 1 = p1 := ⟨_, rfl⟩
    have hpe : (f.pins : Int) - 1 = (p1 : Int) := by omega
    have hpc : (p1 : Int) ≤ 100001 := by omega
    have hpd : (f.pins : Int) ≤ 100000 := by omega
    rw [hp1]
    clear hp1 hp hpb
    go_enter Tryz.func15, Tryz.ntmps15
    go_wp2_with fail
    refine cF.mono ?_
    rintro e w2 ⟨rfl, e2⟩
    rw [e2]
    clear e2 cF
    go_wp2_with fail
    refine cU.mono ?_
    rintro e w3 ⟨b, c, rfl, t3⟩
    clear cU
    have T3 : Hid (RpTo B w y _ w3) := t3
    obtain ⟨_, k1', k2, k3, kf, ks⟩ := t3.pd.last (A := y.l.eraseIdx i) (f := f) (z := z) (n := y.l.length) rfl HZ.out.1 (by rw [List.length_append, HZ.out.1]; exact HZ.out.2) rfl
    have hf1 := kf (z * 4 + 1)
    have T4 : Hid (RpTo B w3 _ _ (w3.setCell ⟨b, z * 4 + 1, none⟩ (.int .i64 (p1 : Int)))) := ks 1 (.int .i64 (p1 : Int)) { f with pins := p1 } (by decide) rfl
    clear t3 ks kf
    go_wp2_with fail
    go_ret
    exact ⟨fun q => absurd q HP.out, fun _ => ⟨rfl, _, T3.out.trans T4.out⟩⟩

theorem runpin_any (h : Rp B w y) (k : Rs S y) (ho : OkS bd S) (hbd : bd ≤ 90000) (hB : B ≤ w.heap.size) (a : Int) :
    Calls Tryz.prog 15 #[.pointer (some ⟨y.q, 0, none⟩), .int .i64 a] w fun e w' => e = .returned (.int .i64 (unpinS S a).1) ∧ ∃ y', RpTo B w y y' w' ∧ Rs (unpinS S a).2 y' := by
  have hl64 : y.l.length ≤ 64 := by rw [k.l]; have := ho.len; have := ho.n; omega
  unfold unpinS
  cases hx : idx S.l a with
  | none =>
    refine (runpin_none h hl64 a (by rw [k.l]; unfold idxI; rw [hx])).mono ?_
    rintro e w' ⟨rfl, rfl⟩
    exact ⟨rfl, y, RpTo.refl h, k⟩
  | some i =>
    obtain ⟨f, hf, hfa, hbef⟩ := idx_some hx
    simp only
    rw [hf]
    simp only
    have := (ho.pg f (List.mem_of_getElem? hf)).2.2
    refine (runpin_at h hl64 hB a i f (by rw [k.l]; exact hf) (by rw [k.l]; unfold idxI; rw [hx]) (by omega)).mono ?_
    rintro e w' ⟨h1, h3⟩
    by_cases hp : f.pins = 0
    · rw [if_pos hp]
      obtain ⟨rfl, rfl⟩ := h1 hp
      exact ⟨rfl, y, RpTo.refl h, k⟩
    · rw [if_neg hp]
      obtain ⟨rfl, lv, t⟩ := h3 hp
      exact ⟨rfl, _, t, ⟨k.n, by show y.l.eraseIdx i ++ _ = _; rw [k.l], k.rd, k.wr, k.rel⟩⟩
end
end Go.Proofs.YtghocbaafdnddaaGreat
end

section
namespace Go.Proofs.YtghocbaafdnddaaGreat
open Go.RowKit

theorem uAt_snoc (l : List Fm) (f : Fm) : ∀ b : Nat, uAt (l ++ [f]) b = uAt l b ++ (if f.pins = 0 then [b + l.length] else []) := by
  induction l with
  | nil => intro b; show uAt [f] b = _; unfold uAt; split <;> simp [uAt]
  | cons g l ih =>
    intro b
    show uAt (g :: (l ++ [f])) b = uAt (g :: l) b ++ _
    conv => lhs; unfold uAt
    conv => rhs; unfold uAt
    rw [ih (b + 1), List.length_cons, show b + 1 + l.length = b + (l.length + 1) by omega]
    split
    · rw [List.cons_append]
    · rfl
def natI (l : List Nat) : List Int := l.map (fun i : Nat => (i : Int))
theorem uAt_step (l : List Fm) (k : Nat) (f : Fm) (hx : l[k]? = some f) : natI (uAt (l.take (k + 1)) 0) = natI (uAt (l.take k) 0) ++ (if f.pins = 0 then [(k : Int)] else []) := by
  have hk := (List.getElem?_eq_some_iff.1 hx).1
  have e : l.take (k + 1) = l.take k ++ [f] := by rw [List.take_add_one, hx]; rfl
  rw [e, uAt_snoc, List.length_take, Nat.min_eq_left (by omega), Nat.zero_add]
  unfold natI
  split <;> simp
theorem uAt_len (l : List Fm) : ∀ b, (uAt l b).length ≤ l.length := by
  induction l with
  | nil => intro b; exact Nat.le_refl _
  | cons g l ih => intro b; unfold uAt; split <;> simp <;> have := ih (b + 1) <;> omega

/-- The place that is meant by n, of m. -/
theorem mod_twice (n : Int) (m : Nat) (hm : 1 ≤ m) : ∃ (t : Int) (r : Nat), n.tmod (m : Int) = t ∧ (t + m).tmod (m : Int) = (r : Int) ∧ -(m : Int) < t ∧ t < m ∧ r < m ∧ n % (m : Int) = (r : Int) := by
  have h0 := Int.emod_nonneg n (b := (m : Int)) (by omega)
  have h1 := Int.emod_lt_of_pos n (b := (m : Int)) (by omega)
  rcases tmod_emod n m hm with ⟨a, b, c⟩ | ⟨a, b⟩
  · refine ⟨_, (n % (m : Int)).toNat, rfl, ?_, c, by omega, by omega, by omega⟩
    rw [b, Int.tmod_eq_of_lt h0 h1]
    omega
  · refine ⟨_, (n % (m : Int)).toNat, rfl, ?_, by omega, by omega, by omega, by omega⟩
    have e : n.tmod (m : Int) + (m : Int) = (m : Int) + n % (m : Int) := by omega
    rw [e, Int.tmod_eq_emod_of_nonneg (by omega), Int.add_emod_left, Int.emod_emod]
    omega

section
variable {B bd : Nat} {w : World} {y : RX} {S : St}

set_option maxHeartbeats 3200000 in
set_option maxRecDepth 100000 in
theorem revict_any (h : Rp B w y) (k : Rs S y) (ho : OkS bd S) (hbd : bd ≤ 90000) (hB : B ≤ w.heap.size) (n : Int) (_hn1 : -9223372036854775808 ≤ n) (_hn2 : n ≤ 9223372036854775807) :
    Calls Tryz.prog 19 #[.pointer (some ⟨y.q, 0, none⟩), .int .i64 n] w fun e w' => e = .returned (.int .i64 (evictS S n).1) ∧ ∃ y', RpTo B w y y' w' ∧ Rs (evictS S n).2 y' := by
  have hl64 : y.l.length ≤ 64 := by rw [k.l]; have := ho.len; have := ho.n; omega
  have H : Hid (Rp B w y) := h
  have HS : Hid (Rs S y) := k
  have HO : Hid (OkS bd S ∧ bd ≤ 90000 ∧ B ≤ w.heap.size) := ⟨ho, hbd, hB⟩
  obtain ⟨sa, sc, ev, _, _⟩ := h.lvOf
  obtain ⟨R, HR⟩ : ∃ R, Hid (evictS S n = R) := ⟨_, rfl⟩
  rw [HR.out]
  clear h k ho hbd hB
  go_enter Tryz.func19, Tryz.ntmps19
  go_wp2_with fail
  go_loopw [5, 6] (fun st si wr => ∃ k : Nat, k ≤ y.l.length ∧ si = .int .i64 (k : Int) ∧ IRow wr w.heap.size st (natI (uAt (y.l.take k) 0)) ∧ Below w.heap.size w wr) (fun _ si _ => y.l.length - (intOf si).toNat)
  case atStart => exact ⟨0, Nat.zero_le _, rfl, irow_nil _ _, Below.refl _ _⟩
  case round =>
    obtain ⟨k, hk, rfl, hrow, hb⟩ := hrel
    have hw := H.out.below hb
    obtain ⟨_, _, c2, _, _⟩ := hw.cell
    rw [ev] at c2
    obtain ⟨ta, tc, rfl, htc, _⟩ := hrow.len
    have hul : (natI (uAt (y.l.take k) 0)).length ≤ y.l.length := by
      unfold natI
      rw [List.length_map]
      exact Nat.le_trans (uAt_len _ _) (by rw [List.length_take]; omega)
    by_cases hlt : k < y.l.length
    · have hlt2 : (k : Int) < (y.l.length : Int) := by omega
      have hx : y.l[k]? = some y.l[k] := by simp [hlt]
      generalize y.l[k] = f at hx
      obtain ⟨ra, rc, e, hsc, _, _, _, _, _, d1, _⟩ := hw.at hx
      rw [ev] at e
      cases e
      have hst := uAt_step y.l k f hx
      by_cases hp : f.pins = 0
      · have d1z : wr.cell? ⟨ra, k * 4 + 1, none⟩ = some (.int .i64 0) := by rw [d1, hp]; rfl
        have HST : Hid (natI (uAt (y.l.take (k + 1)) 0) = natI (uAt (y.l.take k) 0) ++ [(k : Int)]) := by show _ = _; rw [hst, if_pos hp]
        have hb2 := below2 hb (below_alloc1 wr (.cells #[.int .i64 (k : Int)] 3))
        have hr2 := hrow.below' (below_alloc1 wr (.cells #[.int .i64 (k : Int)] 3))
        clear hw hx hst hp d1
        generalize hA : natI (uAt (y.l.take k) 0) = A at *
        go_wp2_with (at_builtin; refine wpList_append_int _ rfl (.tmp 25) (.tmp 27) rfl w.heap.size _ A [(k : Int)] rfl hr2 ⟨wr.heap.size, 0, none⟩ 1 (by simp; rfl) (one_src _ _ (by simp)) (by simp; omega) hb2.size ?_; intro v' w' hrow' hfr hnew)
        go_roundw
        case rel => exact ⟨k + 1, by omega, by go_num, by rw [HST.out]; exact hrow', hfr.below hb2 hb2.size (fun k e => (hrow.blk e).1)⟩
        case measure => simp [intOf]; omega
      · have hp2 : ((f.pins : Int) == 0) = false := by rw [beq_eq_false_iff_ne]; omega
        have HST : Hid (natI (uAt (y.l.take (k + 1)) 0) = natI (uAt (y.l.take k) 0)) := by show _ = _; rw [hst, if_neg hp, List.append_nil]
        clear hw hx hst hp
        generalize hA : natI (uAt (y.l.take k) 0) = A at *
        go_wp2_with fail
        go_roundw
        case rel => exact ⟨k + 1, by omega, by go_num, by rw [HST.out]; exact hrow, hb⟩
        case measure => simp [intOf]; omega
    · obtain rfl : k = y.l.length := by omega
      rw [List.take_length] at hrow hul htc
      have HRW : Hid (IRow wr w.heap.size (.slice ta (natI (uAt y.l 0)).length tc) (natI (uAt y.l 0))) := hrow
      have HW : Hid (Rp B wr y) := hw
      have T0 : Hid (RpTo B w y y wr) := RpTo.of_below H.out hb
      rw [show (natI (uAt (y.l.take y.l.length) 0)).length = (natI (uAt y.l 0)).length by rw [List.take_length]]
      have HSl := HS.out.l
      cases hu : uAt y.l 0 with
      | nil =>
        have HE : Hid (R = (60, S)) := by
          show _ = _
          rw [← HR.out]
          unfold evictS
          rw [← HSl, hu]
          rfl
        have hn0 : (natI ([] : List Nat)).length = 0 := rfl
        rw [hn0]
        clear hw hrow hu
        go_wp2_with fail
        go_ret
        rw [HE.out]
        exact ⟨rfl, y, T0.out, HS.out⟩
      | cons u us =>
        obtain ⟨M, hM⟩ : ∃ M, (natI (u :: us)).length = M := ⟨_, rfl⟩
        have hM0 : 1 ≤ M := by rw [← hM]; simp [natI]
        have hMu : (uAt S.l 0).length = M := by rw [← HSl, hu, ← hM]; simp [natI]
        obtain ⟨t, r, m1, m2, m3, m4, m5, m6⟩ := mod_twice n M hM0
        have hr : (uAt S.l 0)[r]? = some (uAt S.l 0)[r] := by simp [show r < (uAt S.l 0).length by omega]
        generalize (uAt S.l 0)[r] = i at hr
        obtain ⟨_, f, hf, _⟩ := uAt_get S.l 0 r i hr
        rw [Nat.sub_zero] at hf
        have HE : Hid (R = giveS S i f) := by
          show _ = _
          rw [← HR.out]
          unfold evictS
          rw [hMu, m6, Int.toNat_natCast, hr]
          simp only
          rw [hf]
        have hri : (natI (uAt y.l 0))[r]? = some (i : Int) := by rw [HSl]; simp [natI, hr]
        obtain ⟨ib, ic, ie, _, _, _, hcell⟩ := HRW.out.cell hri
        rw [hu, hM] at ie
        cases ie
        have cG := rgive_any HW.out HS.out HO.out.1 HO.out.2.1 (Nat.le_trans HO.out.2.2 hb.size) i f hf
        generalize giveS S i f = G at HE cG
        rw [hM]
        have hM1 : ((M : Int) == 0) = false := by rw [beq_eq_false_iff_ne]; omega
        have hM2 : ((M : Int) == -1) = false := by rw [beq_eq_false_iff_ne]; omega
        have hM3 : (M : Int) ≤ 1000 := by have := uAt_len y.l 0; rw [HSl] at this; rw [HSl] at hl64; omega
        have hr2 : (r : Int) < (M : Int) := by omega
        have hw2 : IntKind.i64.wrap (t + (M : Int)) = t + (M : Int) := by rw [IntKind.wrap_i64]; omega
        clear hw hrow hu hMu hr hf hri hM m6 HRW hul htc
        go_wp2_with fail
        refine cG.mono ?_
        rintro e w2 ⟨rfl, y2, t2, k2⟩
        have HX : Hid (RpTo B w y y2 w2 ∧ Rs G.2 y2) := ⟨T0.out.trans t2, k2⟩
        clear cG t2 k2
        go_wp2_with fail
        go_ret
        rw [HE.out]
        exact ⟨rfl, y2, HX.out⟩
end
end Go.Proofs.YtghocbaafdnddaaGreat
end

section
namespace Go.Proofs.YtghocbaafdnddaaGreat
open Go.RowKit

theorem rflush_rel (b : Nat) (D : DS) (Q : RS) (hi : Inv b D) (hr : Rel D Q) (hb : b ≤ 100000) :
    ∃ Q', Rel (flD D) Q' ∧ ∀ B w g h, RDev B w g h Q → B ≤ w.heap.size → Calls Tryz.prog 57 #[.pointer (some ⟨g, 0, none⟩)] w fun e w' => e = .returned (.int .i64 (flE D)) ∧ RTo B w g h Q' w' := by
  obtain ⟨q1, q2, q3, q4, q5⟩ := hr.bounds hi hb
  have hdn := hr.down
  unfold flD flE
  by_cases hl : D.left = 0
  · rw [if_pos hl, if_pos hl]
    rw [show (D.left == 0) = true by simpa using hl] at hdn
    refine ⟨Q, hr, fun B w g h r _ => (rflush_down r hdn.symm).mono ?_⟩
    rintro e w' ⟨rfl, rfl⟩
    exact ⟨rfl, .same r⟩
  · rw [if_neg hl, if_neg hl]
    rw [show (D.left == 0) = false by simpa using hl] at hdn
    refine ⟨_, hr.flushed hi hl, fun B w g h r hB => (rflush_ok r hdn.symm hB q5 q1 q2).mono ?_⟩
    rintro e w' ⟨rfl, h', r', fr, gr⟩
    exact ⟨rfl, h', r', fr, gr⟩

theorem idx_pages (l : List Fm) (a : Int) : idx l a = (l.map (fun f : Fm => f.pg)).findIdx? (fun n : Nat => decide ((n : Int) = a)) := by
  unfold idx
  rw [List.findIdx?_map]
  rfl
theorem pages_at {l : List Fm} (hn : (l.map (·.pg)).Nodup) {i j : Nat} {f g : Fm} (hi : l[i]? = some f) (hj : l[j]? = some g) (e : f.pg = g.pg) : i = j := by
  obtain ⟨h1, e1⟩ := List.getElem?_eq_some_iff.1 hi
  obtain ⟨h2, e2⟩ := List.getElem?_eq_some_iff.1 hj
  have hp : ∀ (a b : Nat) (ha : a < (l.map (·.pg)).length) (hb : b < (l.map (·.pg)).length), a < b → (l.map (·.pg))[a] ≠ (l.map (·.pg))[b] := fun a b ha hb hab => List.pairwise_iff_getElem.1 hn a b ha hb hab
  rcases Nat.lt_trichotomy i j with z | z | z
  · exact absurd (show (l.map (·.pg))[i]'(by simpa using h1) = (l.map (·.pg))[j]'(by simpa using h2) from by simp only [List.getElem_map, e1, e2, e]) (hp i j (by simpa using h1) (by simpa using h2) z)
  · exact z
  · exact absurd (show (l.map (·.pg))[j]'(by simpa using h2) = (l.map (·.pg))[i]'(by simpa using h1) from by simp only [List.getElem_map, e1, e2, e]) (hp j i (by simpa using h2) (by simpa using h1) z)

theorem dirtyS_nodup {b : Nat} {S : St} (h : OkS b S) : (dirtyS S).Nodup := by
  have h1 : (pgs (fun f => f.dirty) S.l).Nodup := by
    unfold pgs
    have h2 : ((S.l.filter (fun f => f.dirty)).map (·.pg)).Nodup := List.Nodup.sublist ((List.filter_sublist (l := S.l)).map _) h.uniq
    have e : (S.l.filter (fun f => f.dirty)).map (fun f => (f.pg : Int)) = ((S.l.filter (fun f => f.dirty)).map (·.pg)).map (fun n : Nat => (n : Int)) := by rw [List.map_map]; rfl
    rw [e]
    exact List.Pairwise.map _ (fun a b hab => by intro q; exact hab (Int.ofNat.inj q)) h2
  exact (List.mergeSort_perm _ _).nodup_iff.2 h1

theorem dirtyS_at {b : Nat} {S : St} (h : OkS b S) {a : Int} (ha : a ∈ dirtyS S) : ∃ i f, idx S.l a = some i ∧ S.l[i]? = some f ∧ f.dirty = true := by
  have h1 := sortI_mem ha
  unfold pgs at h1
  obtain ⟨f, hf, e⟩ := List.mem_map.1 h1
  obtain ⟨h2, h3⟩ := List.mem_filter.1 hf
  obtain ⟨i, g, h4, h5, h6⟩ := idx_of_mem (l := S.l) (m := S.l) (a := a) ⟨f, h2, e⟩ rfl
  obtain ⟨j, hj⟩ := List.getElem?_of_mem h2
  have : i = j := pages_at h.uniq h5 hj (by omega)
  subst this
  rw [h5] at hj
  cases hj
  exact ⟨i, f, h4, h5, h3⟩

/-- Where the loop of writes stands. -/
structure RFl (B bd : Nat) (w1 : World) (y0 : RX) (S0 : St) (T : List Int) (k : Nat) (wr : World) (y : RX) (S : St) : Prop where
  step : RpTo B w1 y0 y wr
  rs : Rs S y
  ok : OkS (bd + k) S
  rest : wrAll T S0 = wrAll (T.drop k) S
  dirty : ∀ a ∈ T.drop k, ∃ i f, idx S.l a = some i ∧ S.l[i]? = some f ∧ f.dirty = true

theorem wrAll_go {T : List Int} {a : Int} {r : List Int} {S0 S : St} {i : Nat} {f : Fm} (h : wrAll T S0 = wrAll (a :: r) S) (hi : idx S.l a = some i) (hf : S.l[i]? = some f) (he : wrE S.D f = 0) : wrAll T S0 = wrAll r (wr1 S i f) := by
  rw [h]
  unfold wrAll
  rw [hi]
  simp only
  rw [hf]
  simp only
  rw [if_pos he]
  cases r <;> rfl
theorem wrAll_no {T : List Int} {a : Int} {r : List Int} {S0 S : St} {i : Nat} {f : Fm} (h : wrAll T S0 = wrAll (a :: r) S) (hi : idx S.l a = some i) (hf : S.l[i]? = some f) (he : wrE S.D f ≠ 0) : wrAll T S0 = (wrE S.D f, wr1 S i f) := by
  rw [h]
  unfold wrAll
  rw [hi]
  simp only
  rw [hf]
  simp only
  rw [if_neg he]

theorem dirty_next {S : St} {a a' : Int} {i : Nat} {f : Fm} (hi : idx S.l a = some i) (hf : S.l[i]? = some f) (ne : a' ≠ a) (h : ∃ j g, idx S.l a' = some j ∧ S.l[j]? = some g ∧ g.dirty = true) : ∃ j g, idx (wr1 S i f).l a' = some j ∧ (wr1 S i f).l[j]? = some g ∧ g.dirty = true := by
  obtain ⟨j, g, h1, h2, h3⟩ := h
  have e : (wr1 S i f).l.map (·.pg) = S.l.map (·.pg) := pgs_set hf (wrF_pg _ _).1
  refine ⟨j, g, by rw [idx_pages, e, ← idx_pages]; exact h1, ?_, h3⟩
  show (S.l.set i _)[j]? = some g
  rw [List.getElem?_set_ne]
  · exact h2
  · rintro rfl
    rw [hf] at h2
    cases h2
    obtain ⟨f1, k1, k2, _⟩ := idx_some hi
    obtain ⟨f2, k3, k4, _⟩ := idx_some h1
    rw [k1] at k3
    cases k3
    exact ne (k4.symm.trans k2)

section
variable {B bd : Nat} {w : World} {y : RX} {S : St}

set_option maxHeartbeats 3200000 in
set_option maxRecDepth 100000 in
theorem rpflush_any (h : Rp B w y) (k : Rs S y) (ho : OkS bd S) (hbd : bd ≤ 80000) (hB : B ≤ w.heap.size) :
    Calls Tryz.prog 17 #[.pointer (some ⟨y.q, 0, none⟩)] w fun e w' => e = .returned (.int .i64 (flushS S).1) ∧ ∃ y', RpTo B w y y' w' ∧ Rs (flushS S).2 y' := by
  have hl64 : y.l.length ≤ 64 := by rw [k.l]; have := ho.len; have := ho.n; omega
  have c := rpdirty_any h (by omega)
  rw [k.l] at c
  have H : Hid (Rp B w y) := h
  have HS0 : Hid (Rs S y) := k
  have HO : Hid (OkS bd S ∧ bd ≤ 80000 ∧ B ≤ w.heap.size) := ⟨ho, hbd, hB⟩
  have hTl : (dirtyS S).length ≤ 64 := by
    have h1 : (dirtyS S).length = (pgs (fun f => f.dirty) S.l).length := sortI_len _
    have h2 := pgs_len (fun f => f.dirty) S.l
    rw [k.l] at hl64
    omega
  have HND : Hid ((dirtyS S).Nodup) := dirtyS_nodup ho
  have HD0 : Hid (∀ a ∈ dirtyS S, ∃ i f, idx S.l a = some i ∧ S.l[i]? = some f ∧ f.dirty = true) := show ∀ a ∈ dirtyS S, _ from fun a ha => dirtyS_at ho ha
  have HFS : Hid (flushS S = if (wrAll (dirtyS S) S).1 = 0 then (flE (wrAll (dirtyS S) S).2.D, { (wrAll (dirtyS S) S).2 with D := flD (wrAll (dirtyS S) S).2.D }) else wrAll (dirtyS S) S) := rfl
  obtain ⟨RE, HRE⟩ : ∃ RE, Hid (flushS S = RE) := ⟨_, rfl⟩
  rw [HRE.out]
  rw [show sortI (pgs (fun f => f.dirty) S.l) = dirtyS S from rfl] at c
  clear h k ho hbd hB hl64
  go_enter Tryz.func17, Tryz.ntmps17
  go_wp2_with fail
  refine c.mono ?_
  rintro e w1 ⟨v, rfl, hrow, hb1⟩
  clear c
  generalize hT : dirtyS S = T at *
  clear hT
  obtain ⟨va, vc, rfl, hvc, _⟩ := hrow.len
  have HROW : Hid (IRow w1 w.heap.size (.slice va T.length vc) T) := hrow
  have HB1 : Hid (Below w.heap.size w w1) := hb1
  clear hrow hb1
  go_wp2_with fail
  go_loopw [4] (fun si wr => ∃ (k : Nat) (z : RX) (Z : St), k ≤ T.length ∧ si = .int .i64 (k : Int) ∧ Hid (RFl B bd w1 y S T k wr z Z)) (fun si _ => T.length - (intOf si).toNat)
  case atStart => exact ⟨0, y, S, Nat.zero_le _, rfl, ⟨RpTo.refl (H.out.below HB1.out), HS0.out, HO.out.1, rfl, HD0.out⟩⟩
  case round =>
    obtain ⟨k, z, Z, hk, rfl, HF⟩ := hrel
    have hq : z.q = y.q := HF.out.step.q
    have hg : z.g = y.g := HF.out.step.g
    have HR : Hid (Rp B wr z) := HF.out.step.pd
    obtain ⟨c0, _, c2, _, c4⟩ := HR.out.cell
    rw [hq] at c2 c4
    rw [hq, hg] at c0
    have hszw : B ≤ wr.heap.size := Nat.le_trans (Nat.le_trans HO.out.2.2 HB1.out.size) HF.out.step.fr.size
    by_cases hlt : k < T.length
    · have hlt2 : (k : Int) < (T.length : Int) := by omega
      have hx : T[k]? = some T[k] := by simp [hlt]
      have hdrop : T.drop k = T[k] :: T.drop (k + 1) := List.drop_eq_getElem_cons hlt
      have hne : ∀ a' ∈ T.drop (k + 1), a' ≠ T[k] := by
        have hn : (T.drop k).Nodup := List.Nodup.sublist (List.drop_sublist k T) HND.out
        rw [hdrop] at hn
        intro a' ha' e
        exact (List.nodup_cons.1 hn).1 (e ▸ ha')
      generalize T[k] = a at hx hdrop hne
      obtain ⟨b0, cc0, e0, _, _, hbl, hcell⟩ := HROW.out.cell hx
      cases e0
      have hnf : ¬ y.ft b0 := fun q => by
        have h1 := (HROW.out.blk rfl).1
        have h2 := H.out.lt q
        omega
      have hcw : wr.cell? ⟨b0, k, none⟩ = some (.int .i64 a) := by
        have : wr.heap[b0]? = w1.heap[b0]? := HF.out.step.fr.block b0 hbl hnf
        rw [← hcell]
        simp only [World.cell?, this]
      have hnf2 : Hid (¬ z.ft b0 ∧ b0 < wr.heap.size) := ⟨fun q => (HF.out.step.new b0 q).elim hnf (fun q => by omega), Nat.lt_of_lt_of_le hbl HF.out.step.fr.size⟩
      obtain ⟨i, f, hi1, hi2, hfd⟩ := HF.out.dirty a (by rw [hdrop]; simp)
      obtain ⟨p1, p2, p3⟩ := HF.out.ok.pg f (List.mem_of_getElem? hi2)
      have hiz : z.l[i]? = some f := by rw [HF.out.rs.l]; exact hi2
      have hzl : z.l.length ≤ 64 := by rw [HF.out.rs.l]; have := HF.out.ok.len; have := HF.out.ok.n; omega
      have cF := rfind_any HR.out (by omega) a (i : Int) (by show idxI z.l a = _; unfold idxI; rw [HF.out.rs.l, hi1])
      rw [hq] at cF
      obtain ⟨ra, rc, ev, hsc, _, _, _, _, _, _, d2, d3, hfz⟩ := HR.out.at hiz
      rw [ev] at c2
      have hil : (i : Int) < (z.l.length : Int) := by have := (List.getElem?_eq_some_iff.1 hiz).1; omega
      obtain ⟨Q', hrel', cW⟩ := rwrite_rel (bd + k) Z.D z.Q HF.out.ok.inv HF.out.rs.rel (by have := HO.out.2.1; omega) f p1 p2 hfd
      have hfa : (f.pg : Int) = a := by
        obtain ⟨f1, k1, k2, _⟩ := idx_some hi1
        rw [hi2] at k1
        cases k1
        exact k2
      have cW1 := cW B wr.drew z.g z.h (HR.out.dev.kept (fun _ _ => rfl)) hszw
      rw [hfa, hg] at cW1
      have hrest := HF.out.rest
      rw [hdrop] at hrest
      have hok := HF.out.ok.wr1 hi2
      have HN : Hid (∀ a' ∈ T.drop (k + 1), ∃ j g, idx (wr1 Z i f).l a' = some j ∧ (wr1 Z i f).l[j]? = some g ∧ g.dirty = true) := show ∀ a' ∈ T.drop (k + 1), _ from fun a' ha' => dirty_next hi1 hi2 (hne a' ha') (HF.out.dirty a' (by rw [hdrop]; exact List.mem_cons_of_mem _ ha'))
      have HOK : Hid (OkS (bd + (k + 1)) (wr1 Z i f)) := hok
      have HREL : Hid (Rel (wrD Z.D f) Q') := hrel'
      have HI : Hid (z.l[i]? = some f ∧ Z.l[i]? = some f ∧ f.dirty = true) := ⟨hiz, hi2, hfd⟩
      have HLV : Hid (z.lv = .slice (some ⟨ra, 0, none⟩) z.l.length rc) := ev
      have HRest : Hid (wrAll T S = wrAll (a :: T.drop (k + 1)) Z ∧ idx Z.l a = some i) := ⟨hrest, hi1⟩
      obtain ⟨E, HE⟩ : ∃ E, Hid (wrE Z.D f = E) := ⟨_, rfl⟩
      rw [HE.out] at cW1
      have hwb : z.wr ≤ 90000 := by have := HF.out.ok.wr; have := HO.out.2.1; rw [HF.out.rs.wr]; omega
      clear hx hdrop hne hcell hnf hi1 hi2 hfd hiz ev hrel' cW hfa hrest hok p1 p2 p3
      go_wp2_with fail
      refine cF.mono ?_
      rintro e w2 ⟨rfl, hw2⟩
      subst hw2
      clear cF
      go_wp2_with fail
      refine wp_region_held_drew (S := (fun W => W.cell? ⟨y.q, 0, none⟩ = some (.pointer (some ⟨y.g, 0, none⟩)) ∧ W.cell? ⟨y.q, 2, none⟩ = some (.slice (some ⟨ra, 0, none⟩) z.l.length rc) ∧ W.cell? ⟨b0, k, none⟩ = some (.int .i64 a) ∧ W.cell? ⟨ra, i * 4 + 2, none⟩ = some (.string f.s))) (by kernel_rfl) (⟨c0, c2, hcw, d2⟩) (fun hHeld => ?_)
      refine takeD 0 21 (v := .pointer (some ⟨y.q, 0, none⟩)) rfl rfl (by kernel_rfl) (by kernel_rfl) (by kernel_rfl) (fun _ _ _ h => h) (Or.inl ⟨by rfl, by (intro w hSw; obtain ⟨s0, s1, s2, s3⟩ := hSw; go_simp)⟩) hHeld ?_
      simp only [List.setIfInBounds_toArray, List.set_cons_zero, List.set_cons_succ]
      refine takeD 1 22 (v := .pointer (some ⟨y.q, 0, none⟩)) rfl rfl (by kernel_rfl) (by kernel_rfl) (by kernel_rfl) (fun _ _ _ h => h) (Or.inl ⟨by rfl, by (intro w hSw; obtain ⟨s0, s1, s2, s3⟩ := hSw; go_simp)⟩) hHeld ?_
      simp only [List.setIfInBounds_toArray, List.set_cons_zero, List.set_cons_succ]
      refine takeD 2 23 (v := .pointer (some ⟨y.q, 0, none⟩)) rfl rfl (by kernel_rfl) (by kernel_rfl) (by kernel_rfl) (fun _ _ _ h => h) (Or.inl ⟨by rfl, by (intro w hSw; obtain ⟨s0, s1, s2, s3⟩ := hSw; go_simp)⟩) hHeld ?_
      simp only [List.setIfInBounds_toArray, List.set_cons_zero, List.set_cons_succ]
      refine takeD 3 24 (v := .pointer (some ⟨y.g, 0, none⟩)) rfl rfl (by kernel_rfl) (by kernel_rfl) (by kernel_rfl) (fun _ _ _ h => h) (Or.inl ⟨by rfl, by (intro w hSw; obtain ⟨s0, s1, s2, s3⟩ := hSw; go_simp)⟩) hHeld ?_
      simp only [List.setIfInBounds_toArray, List.set_cons_zero, List.set_cons_succ]
      refine takeD 4 25 (v := .slice (some ⟨b0, 0, none⟩) T.length vc) rfl rfl (by kernel_rfl) (by kernel_rfl) (by kernel_rfl) (fun _ _ _ h => h) (Or.inl ⟨by rfl, by (intro w hSw; obtain ⟨s0, s1, s2, s3⟩ := hSw; go_simp)⟩) hHeld ?_
      simp only [List.setIfInBounds_toArray, List.set_cons_zero, List.set_cons_succ]
      refine takeD 5 26 (v := .int .i64 (k : Int)) rfl rfl (by kernel_rfl) (by kernel_rfl) (by kernel_rfl) (fun _ _ _ h => h) (Or.inl ⟨by rfl, by (intro w hSw; obtain ⟨s0, s1, s2, s3⟩ := hSw; go_simp)⟩) hHeld ?_
      simp only [List.setIfInBounds_toArray, List.set_cons_zero, List.set_cons_succ]
      refine takeD 6 27 (v := .pointer (some ⟨b0, k, none⟩)) rfl rfl (by kernel_rfl) (by kernel_rfl) (by kernel_rfl) (fun _ _ _ h => h) (Or.inl ⟨by rfl, by (intro w hSw; obtain ⟨s0, s1, s2, s3⟩ := hSw; go_simp)⟩) hHeld ?_
      simp only [List.setIfInBounds_toArray, List.set_cons_zero, List.set_cons_succ]
      refine takeD 7 28 (v := .int .i64 a) rfl rfl (by kernel_rfl) (by kernel_rfl) (by kernel_rfl) (fun _ _ _ h => h) (Or.inl ⟨by rfl, by (intro w hSw; obtain ⟨s0, s1, s2, s3⟩ := hSw; go_simp)⟩) hHeld ?_
      simp only [List.setIfInBounds_toArray, List.set_cons_zero, List.set_cons_succ]
      refine takeD 8 29 (v := .pointer (some ⟨y.q, 0, none⟩)) rfl rfl (by kernel_rfl) (by kernel_rfl) (by kernel_rfl) (fun _ _ _ h => h) (Or.inl ⟨by rfl, by (intro w hSw; obtain ⟨s0, s1, s2, s3⟩ := hSw; go_simp)⟩) hHeld ?_
      simp only [List.setIfInBounds_toArray, List.set_cons_zero, List.set_cons_succ]
      refine takeD 9 30 (v := .pointer (some ⟨y.q, 0, none⟩)) rfl rfl (by kernel_rfl) (by kernel_rfl) (by kernel_rfl) (fun _ _ _ h => h) (Or.inl ⟨by rfl, by (intro w hSw; obtain ⟨s0, s1, s2, s3⟩ := hSw; go_simp)⟩) hHeld ?_
      simp only [List.setIfInBounds_toArray, List.set_cons_zero, List.set_cons_succ]
      refine takeD 10 31 (v := .pointer (some ⟨y.q, 2, none⟩)) rfl rfl (by kernel_rfl) (by kernel_rfl) (by kernel_rfl) (fun _ _ _ h => h) (Or.inl ⟨by rfl, by (intro w hSw; obtain ⟨s0, s1, s2, s3⟩ := hSw; go_simp)⟩) hHeld ?_
      simp only [List.setIfInBounds_toArray, List.set_cons_zero, List.set_cons_succ]
      refine takeD 11 32 (v := .slice (some ⟨ra, 0, none⟩) z.l.length rc) rfl rfl (by kernel_rfl) (by kernel_rfl) (by kernel_rfl) (fun _ _ _ h => h) (Or.inl ⟨by rfl, by (intro w hSw; obtain ⟨s0, s1, s2, s3⟩ := hSw; go_simp)⟩) hHeld ?_
      simp only [List.setIfInBounds_toArray, List.set_cons_zero, List.set_cons_succ]
      refine takeD 12 33 (v := .int .i64 (i : Int)) rfl rfl (by kernel_rfl) (by kernel_rfl) (by kernel_rfl) (fun _ _ _ h => h) (Or.inl ⟨by rfl, by (intro w hSw; obtain ⟨s0, s1, s2, s3⟩ := hSw; go_simp)⟩) hHeld ?_
      simp only [List.setIfInBounds_toArray, List.set_cons_zero, List.set_cons_succ]
      refine takeD 13 34 (v := .pointer (some ⟨ra, i * 4, none⟩)) rfl rfl (by kernel_rfl) (by kernel_rfl) (by kernel_rfl) (fun _ _ _ h => h) (Or.inl ⟨by rfl, by (intro w hSw; obtain ⟨s0, s1, s2, s3⟩ := hSw; go_simp)⟩) hHeld ?_
      simp only [List.setIfInBounds_toArray, List.set_cons_zero, List.set_cons_succ]
      refine takeD 14 35 (v := .pointer (some ⟨ra, i * 4 + 2, none⟩)) rfl rfl (by kernel_rfl) (by kernel_rfl) (by kernel_rfl) (fun _ _ _ h => h) (Or.inl ⟨by rfl, by (intro w hSw; obtain ⟨s0, s1, s2, s3⟩ := hSw; go_simp)⟩) hHeld ?_
      simp only [List.setIfInBounds_toArray, List.set_cons_zero, List.set_cons_succ]
      refine takeD 15 36 (v := .string f.s) rfl rfl (by kernel_rfl) (by kernel_rfl) (by kernel_rfl) (fun _ _ _ h => h) (Or.inl ⟨by rfl, by (intro w hSw; obtain ⟨s0, s1, s2, s3⟩ := hSw; go_simp)⟩) hHeld ?_
      simp only [List.setIfInBounds_toArray, List.set_cons_zero, List.set_cons_succ]
      refine wpAnyH_ready (rs := [16]) (by kernel_rfl) (by simp) ?_
      refine AllReadyH.cons rfl (fun K hK => ?_) AllReadyH.nil
      go_simp
      refine cW1.mono ?_
      rintro e w3 ⟨rfl, d1'⟩
      clear cW1
      have h1 := HR.out.below (below_drew w2)
      rw [← hg] at d1'
      obtain ⟨h', t1⟩ := h1.devTo d1'
      have T1 : Hid (RpTo B w2.drew z { z with h := h', Q := Q' } w3) := t1
      obtain ⟨c0', _, c2', _, c4'⟩ := t1.pd.cell
      simp only at c0' c2' c4'
      rw [hq] at c2' c4'
      rw [hq, hg] at c0'
      rw [HLV.out] at c2'
      obtain ⟨ra', rc', e', _, _, _, _, _, _, _, d2', d3', hfz'⟩ := t1.pd.at (i := i) (f := f) HI.out.1
      simp only at e'
      rw [HLV.out] at e'
      cases e'
      have z2 := t1.pd.free? 4
      simp only at z2
      rw [hq] at z2
      have hcw' : w3.cell? ⟨b0, k, none⟩ = some (.int .i64 a) := by
        have : w3.heap[b0]? = w2.heap[b0]? := t1.fr.block b0 hnf2.out.2 hnf2.out.1
        rw [← hcw]
        simp only [World.cell?, this]
      clear h1 t1 d1'
      go_simp
      refine hK.out _ _ ⟨c0', c2', hcw', d2'⟩ (fun hHeld => ?_)
      clear hK K
      refine takeD 17 6 (v := .int .i64 E) rfl rfl (by kernel_rfl) (by kernel_rfl) (by kernel_rfl) (fun _ _ _ h => h) (Or.inl ⟨by rfl, by (intro w hSw; (try dsimp only at hSw); go_simp)⟩) hHeld ?_
      simp only [List.setIfInBounds_toArray, List.set_cons_zero, List.set_cons_succ]
      refine wpAnyH_done (by kernel_rfl) ?_ _
      clear hHeld c0 c2 c4 hcw d2 d3 hfz
      by_cases he : E = 0
      · subst he
        have HW1 : Hid (wr1 Z i f = { Z with l := Z.l.set i { f with dirty := false }, wr := Z.wr + 1, D := wrD Z.D f }) := by
          have e1 : wrN Z.D f = 1 := by unfold wrN; rw [if_pos ⟨HI.out.2.2, HE.out⟩]
          have e2 : wrF Z.D f = { f with dirty := false } := by unfold wrF; rw [if_pos HE.out]
          show _ = _
          unfold wr1
          rw [e1, e2]
        have HRN : Hid (wrAll T S = wrAll (T.drop (k + 1)) (wr1 Z i f)) := wrAll_go HRest.out.1 HRest.out.2 HI.out.2.1 HE.out
        obtain ⟨n1, hn1⟩ : ∃ n1, z.wr + 1 = n1 := ⟨_, rfl⟩
        have hwr2 : (z.wr : Int) + 1 = (n1 : Int) := by omega
        have hwr3 : (n1 : Int) ≤ 90001 := by omega
        have HWR : Hid (Z.wr + 1 = n1) := by show _ = _; rw [← hn1, HF.out.rs.wr]
        have t2 := T1.out.pd.setWr n1
        have T2 : Hid (RpTo B w3 _ _ (w3.setCell ⟨z.q, 4, none⟩ (.int .i64 (n1 : Int)))) := t2
        obtain ⟨_, _, c2'', _, _⟩ := t2.pd.cell
        obtain ⟨ra', rc', e', _, _, _, _, _, _, _, _, d3'', hfz''⟩ := t2.pd.at (i := i) (f := f) HI.out.1
        simp only at e' c2''
        rw [HLV.out] at e' c2''
        cases e'
        have T3 : Hid (RpTo B _ _ _ _) := t2.pd.setF (i := i) (f := f) (g := { f with dirty := false }) HI.out.1 HLV.out 3 (.bool false) (by decide) rfl
        have hf3 := hfz'' (i * 4 + 3)
        have T123 : Hid (RpTo B w2.drew z _ _) := T1.out.trans (T2.out.trans T3.out)
        rw [hq] at T123 c2'' d3'' hf3
        clear T2 T3
        clear t2 hfz'' hn1 hfz'
        go_wp2_with fail
        go_roundw
        case rel =>
          refine ⟨k + 1, _, wr1 Z i f, by omega, by go_num, ⟨HF.out.step.trans ((RpTo.of_below HR.out (below_drew w2)).trans T123.out), ?_, HOK.out, HRN.out, HN.out⟩⟩
          have r0 := HF.out.rs
          rw [HW1.out]
          exact ⟨r0.n, by show z.l.set i _ = _; rw [r0.l], r0.rd, HWR.out.symm, HREL.out⟩
        case measure => simp [intOf]; omega
      · have he2 : (E == 0) = false := by simpa using he
        have HW1 : Hid (wr1 Z i f = { Z with D := wrD Z.D f }) := by
          have e1 : wrN Z.D f = 0 := by unfold wrN; rw [if_neg (fun q => he (HE.out.symm.trans q.2))]
          have e2 : wrF Z.D f = f := by unfold wrF; rw [if_neg (fun q => he (HE.out.symm.trans q))]
          show _ = _
          unfold wr1
          rw [e1, e2, set_self HI.out.2.1, Nat.add_zero]
        have hne : wrE Z.D f ≠ 0 := by rw [HE.out]; exact he
        have hW := wrAll_no HRest.out.1 HRest.out.2 HI.out.2.1 hne
        have HRE2 : Hid (RE = (E, { Z with D := wrD Z.D f })) := by
          show _ = _
          rw [← HRE.out, HFS.out, hW, if_neg hne, HE.out, HW1.out]
        clear he hne hW hfz'
        go_wp2_with fail
        go_ret
        rw [HRE2.out]
        have r0 := HF.out.rs
        exact ⟨rfl, _, (RpTo.of_below H.out HB1.out).trans (HF.out.step.trans ((RpTo.of_below HR.out (below_drew w2)).trans T1.out)), ⟨r0.n, r0.l, r0.rd, r0.wr, HREL.out⟩⟩
    · obtain rfl : k = T.length := by omega
      obtain ⟨Q', hrel', cF0⟩ := rflush_rel (bd + T.length) Z.D z.Q HF.out.ok.inv HF.out.rs.rel (by have := HO.out.2.1; omega)
      have cF := cF0 B wr z.g z.h HR.out.dev hszw
      rw [hg] at cF
      have HW : Hid (wrAll T S = (0, Z)) := by
        show _ = _
        rw [HF.out.rest, List.drop_length]
        rfl
      have HREL : Hid (Rel (flD Z.D) Q') := hrel'
      clear cF0 hrel'
      go_wp2_with fail
      refine cF.mono ?_
      rintro e w3 ⟨rfl, d3⟩
      rw [← hg] at d3
      obtain ⟨h', t3⟩ := HR.out.devTo d3
      have T3 : Hid (RpTo B wr z _ w3) := t3
      clear t3 cF d3
      go_wp2_with fail
      go_ret
      have hRE : RE = (flE Z.D, { Z with D := flD Z.D }) := by
        rw [← HRE.out, HFS.out, HW.out, if_pos rfl]
      rw [hRE]
      have r0 := HF.out.rs
      exact ⟨rfl, _, (RpTo.of_below H.out HB1.out).trans (HF.out.step.trans T3.out), ⟨r0.n, r0.l, r0.rd, r0.wr, HREL.out⟩⟩
end
end Go.Proofs.YtghocbaafdnddaaGreat
end

section
namespace Go.Proofs.YtghocbaafdnddaaGreat
open Go.RowKit

set_option maxHeartbeats 800000 in
theorem rpnew_bad (w : World) (g : Nat) (n : Int) (hn : n < 1 ∨ 64 < n) : Calls Tryz.prog 8 #[.pointer (some ⟨g, 0, none⟩), .int .i64 n] w fun e w' => e = .returned (.tuple #[.pointer none, .int .i64 1]) ∧ w' = w := by
  rcases hn with h | h
  · have h1 : decide (n < 1) = true := by simpa using h
    clear h
    go_enter Tryz.func8, Tryz.ntmps8
    go_wp2_with fail
    go_ret2
    exact ⟨rfl, rfl⟩
  · have h1 : decide (n < 1) = false := by simp; omega
    have h2 : decide (64 < n) = true := by simpa using h
    clear h
    go_enter Tryz.func8, Tryz.ntmps8
    go_wp2_with fail
    go_ret2
    exact ⟨rfl, rfl⟩

set_option maxHeartbeats 800000 in
theorem rpnew_ok (w : World) (g n : Nat) (h1 : 1 ≤ n) (h2 : n ≤ 64) : Calls Tryz.prog 8 #[.pointer (some ⟨g, 0, none⟩), .int .i64 (n : Int)] w fun e w' => e = .returned (.tuple #[.pointer (some ⟨w.heap.size, 0, none⟩), .int .i64 0]) ∧ w' = w.alloc (.cells #[.pointer (some ⟨g, 0, none⟩), .int .i64 (n : Int), .slice none 0 0, .int .i64 0, .int .i64 0] 84) := by
  have d1 : decide ((n : Int) < 1) = false := by simp; omega
  have d2 : decide (64 < (n : Int)) = false := by simp; omega
  go_enter Tryz.func8, Tryz.ntmps8
  go_wp2_with fail
  go_ret2
  exact ⟨rfl, rfl⟩

/-- Both pools. -/
structure Tw (W w : World) (p g q gq bd : Nat) (S R : St) (E : List (Nat × Obj)) : Prop where
  ex : ∃ x y, x.p = p ∧ x.g = g ∧ y.q = q ∧ y.g = gq ∧ x.st = S ∧ Pd W.heap.size w x ∧ Good bd x ∧ Rp W.heap.size w y ∧ Rs R y ∧ ∀ e ∈ E, w.heap[e.1]? = some e.2 ∧ ¬ x.ft e.1 ∧ ¬ y.ft e.1
  bel : Below W.heap.size W w

theorem Pd.tagFt {B : Nat} {w : World} {x : PX} (h : Pd B w x) {k : Nat} (hk : x.ft k) : tagOf w.heap[k]? = some 78 ∨ tagOf w.heap[k]? = none ∨ tagOf w.heap[k]? = some 79 ∨ tagOf w.heap[k]? = some 81 ∨ tagOf w.heap[k]? = some 69 ∨ tagOf w.heap[k]? = some 61 ∨ tagOf w.heap[k]? = some 98 := by
  rcases hk with hk | hk
  · rcases h.tagOwn hk with a | a | a | a
    · exact Or.inl a
    · exact Or.inr (Or.inl a)
    · exact Or.inr (Or.inr (Or.inl a))
    · exact Or.inr (Or.inr (Or.inr (Or.inl a)))
  · rcases h.dev.tag hk with a | a | a
    · exact Or.inr (Or.inr (Or.inr (Or.inr (Or.inl a))))
    · exact Or.inr (Or.inr (Or.inr (Or.inr (Or.inr (Or.inl a)))))
    · exact Or.inr (Or.inr (Or.inr (Or.inr (Or.inr (Or.inr a)))))
theorem Rp.tagFt {B : Nat} {w : World} {y : RX} (h : Rp B w y) {k : Nat} (hk : y.ft k) : tagOf w.heap[k]? = some 84 ∨ tagOf w.heap[k]? = some 93 ∨ tagOf w.heap[k]? = some 73 ∨ tagOf w.heap[k]? = some 9 ∨ tagOf w.heap[k]? = some 100 := by
  rcases hk with hk | hk
  · rcases h.tagOwn hk with a | a
    · exact Or.inl a
    · exact Or.inr (Or.inl a)
  · rcases h.dev.tag hk with a | a | a
    · exact Or.inr (Or.inr (Or.inl a))
    · exact Or.inr (Or.inr (Or.inr (Or.inl a)))
    · exact Or.inr (Or.inr (Or.inr (Or.inr a)))
theorem two_apart {B C : Nat} {w : World} {x : PX} {y : RX} (h : Pd B w x) (h' : Rp C w y) {k : Nat} (a : x.ft k) (b : y.ft k) : False := by
  have ta := h.tagFt a
  have tb := h'.tagFt b
  generalize tagOf w.heap[k]? = t at ta tb
  rcases tb with rfl | rfl | rfl | rfl | rfl <;> rcases ta with e | e | e | e | e | e | e <;> simp at e

section
variable {W w w' : World} {p g q gq bd : Nat} {S S' R R' : St} {E : List (Nat × Obj)}

theorem Tw.mono {c : Nat} (h : Tw W w p g q gq bd S R E) (hc : bd ≤ c) : Tw W w p g q gq c S R E := by
  obtain ⟨x, y, e1, e2, e3, e4, e5, e6, e7, e8⟩ := h.ex
  exact ⟨⟨x, y, e1, e2, e3, e4, e5, e6, e7.mono hc, e8⟩, h.bel⟩
theorem Tw.ok (h : Tw W w p g q gq bd S R E) : OkS bd S := by
  obtain ⟨x, y, e1, e2, e3, e4, rfl, e6, e7, e8⟩ := h.ex
  exact e7.ok
theorem Tw.below (h : Tw W w p g q gq bd S R E) (hb : Below w.heap.size w w') : Tw W w' p g q gq bd S R E := by
  obtain ⟨x, y, e1, e2, e3, e4, e5, e6, e7, e8, e9, e10⟩ := h.ex
  exact ⟨⟨x, y, e1, e2, e3, e4, e5, e6.below hb, e7, e8.below hb, e9, fun e he => ⟨(hb.block _ (lt_of_some (e10 e he).1)).trans (e10 e he).1, (e10 e he).2⟩⟩, below2 h.bel hb⟩
theorem Tw.less {F : List (Nat × Obj)} (h : Tw W w p g q gq bd S R E) (hs : ∀ y ∈ F, y ∈ E) : Tw W w p g q gq bd S R F := by
  obtain ⟨x, y, e1, e2, e3, e4, e5, e6, e7, e8, e9, e10⟩ := h.ex
  exact ⟨⟨x, y, e1, e2, e3, e4, e5, e6, e7, e8, e9, fun e he => e10 e (hs e he)⟩, h.bel⟩
theorem Tw.alloc (h : Tw W w p g q gq bd S R E) (o : Obj) : Tw W (w.alloc o) p g q gq bd S R ((w.heap.size, o) :: E) := by
  obtain ⟨x, y, e1, e2, e3, e4, e5, e6, e7, e8, e9, e10⟩ := h.ex
  have hb := below_alloc1 w o
  refine ⟨⟨x, y, e1, e2, e3, e4, e5, e6.below hb, e7, e8.below hb, e9, fun e he => ?_⟩, below2 h.bel hb⟩
  rcases List.mem_cons.1 he with rfl | r
  · exact ⟨heap_alloc_new _ _, fun f => by have := e6.lt f; simp at this, fun f => by have := e8.lt f; simp at this⟩
  · exact ⟨(hb.block _ (lt_of_some (e10 e r).1)).trans (e10 e r).1, (e10 e r).2⟩
theorem Tw.at (h : Tw W w p g q gq bd S R E) {k : Nat} {o : Obj} (hk : (k, o) ∈ E) : w.heap[k]? = some o := by
  obtain ⟨x, y, e1, e2, e3, e4, e5, e6, e7, e8, e9, e10⟩ := h.ex
  exact (e10 _ hk).1

theorem Tw.stepP {x x' : PX} {y : RX} {bd' : Nat} (e1 : x.p = p) (e2 : x.g = g) (e3 : y.q = q) (e4 : y.g = gq) (e6 : Pd W.heap.size w x) (e8 : Rp W.heap.size w y) (e9 : Rs R y) (e10 : ∀ e ∈ E, w.heap[e.1]? = some e.2 ∧ ¬ x.ft e.1 ∧ ¬ y.ft e.1) (hb : Below W.heap.size W w)
    (t : PTo W.heap.size w x x' w') (hs : x'.st = S') (hg : Good bd' x') : Tw W w' p g q gq bd' S' R E :=
  ⟨⟨x', y, t.p.trans e1, t.g.trans e2, e3, e4, hs, t.pd, hg, e8.kept (fun k hk => t.fr.block k (e8.lt hk) (fun q => two_apart e6 e8 q hk)), e9, fun e he =>
    ⟨(t.fr.block _ (lt_of_some (e10 e he).1) (e10 e he).2.1).trans (e10 e he).1, fun f => (t.new _ f).elim (e10 e he).2.1 (fun q => by have := lt_of_some (e10 e he).1; omega), (e10 e he).2.2⟩⟩, t.bel e6 hb (Nat.le_refl _)⟩
theorem Tw.stepR {x : PX} {y y' : RX} (e1 : x.p = p) (e2 : x.g = g) (e3 : y.q = q) (e4 : y.g = gq) (e5 : x.st = S) (e6 : Pd W.heap.size w x) (e7 : Good bd x) (e8 : Rp W.heap.size w y) (e10 : ∀ e ∈ E, w.heap[e.1]? = some e.2 ∧ ¬ x.ft e.1 ∧ ¬ y.ft e.1) (hb : Below W.heap.size W w)
    (t : RpTo W.heap.size w y y' w') (hs : Rs R' y') : Tw W w' p g q gq bd S R' E :=
  ⟨⟨x, y', e1, e2, t.q.trans e3, t.g.trans e4, e5, e6.kept (fun k hk => t.fr.block k (e6.lt hk) (fun q => two_apart e6 e8 hk q)), e7, t.pd, hs, fun e he =>
    ⟨(t.fr.block _ (lt_of_some (e10 e he).1) (e10 e he).2.2).trans (e10 e he).1, (e10 e he).2.1, fun f => (t.new _ f).elim (e10 e he).2.2 (fun q => by have := lt_of_some (e10 e he).1; omega)⟩⟩, t.fr.below hb hb.size (fun _ hk => e8.from hk)⟩

theorem Tw.pinP (h : Tw W w p g q gq bd S R E) (hbd : bd ≤ 80000) (a : Int) : Calls Tryz.prog 9 #[.pointer (some ⟨p, 0, none⟩), .int .i64 a] w fun e w' => e = .returned (.tuple #[.string (pinS S a).1.1, .int .i64 (pinS S a).1.2]) ∧ Tw W w' p g q gq (bd + 2) (pinS S a).2 R E := by
  obtain ⟨x, y, rfl, e2, e3, e4, rfl, e6, e7, e8, e9, e10⟩ := h.ex
  refine (pin_any e6 e7 (by omega) h.bel.size a).mono ?_
  rintro e w' ⟨rfl, x', t, hs, hg⟩
  exact ⟨rfl, Tw.stepP rfl e2 e3 e4 e6 e8 e9 e10 h.bel t hs hg⟩
theorem Tw.pinR (h : Tw W w p g q gq bd S R E) {c : Nat} (ho : OkS c R) (hbd : c ≤ 80000) (a : Int) : Calls Tryz.prog 10 #[.pointer (some ⟨q, 0, none⟩), .int .i64 a] w fun e w' => e = .returned (.tuple #[.string (pinS R a).1.1, .int .i64 (pinS R a).1.2]) ∧ Tw W w' p g q gq bd S (pinS R a).2 E := by
  obtain ⟨x, y, e1, e2, rfl, e4, e5, e6, e7, e8, e9, e10⟩ := h.ex
  refine (rpin_any e8 e9 ho (by omega) h.bel.size a).mono ?_
  rintro e w' ⟨rfl, y', t, hs⟩
  exact ⟨rfl, Tw.stepR e1 e2 rfl e4 e5 e6 e7 e8 e10 h.bel t hs⟩
theorem Tw.setP (h : Tw W w p g q gq bd S R E) (hbd : bd ≤ 80000) (a : Int) (s : ByteArray) : Calls Tryz.prog 12 #[.pointer (some ⟨p, 0, none⟩), .int .i64 a, .string s] w fun e w' => e = .returned (.int .i64 (setS S a s).1) ∧ Tw W w' p g q gq (bd + 1) (setS S a s).2 R E := by
  obtain ⟨x, y, rfl, e2, e3, e4, rfl, e6, e7, e8, e9, e10⟩ := h.ex
  refine (set_any e6 e7 (by omega) h.bel.size a s).mono ?_
  rintro e w' ⟨rfl, x', t, hs, hg⟩
  exact ⟨rfl, Tw.stepP rfl e2 e3 e4 e6 e8 e9 e10 h.bel t hs hg⟩
theorem Tw.setR (h : Tw W w p g q gq bd S R E) {c : Nat} (ho : OkS c R) (a : Int) (s : ByteArray) : Calls Tryz.prog 13 #[.pointer (some ⟨q, 0, none⟩), .int .i64 a, .string s] w fun e w' => e = .returned (.int .i64 (setS R a s).1) ∧ Tw W w' p g q gq bd S (setS R a s).2 E := by
  obtain ⟨x, y, e1, e2, rfl, e4, e5, e6, e7, e8, e9, e10⟩ := h.ex
  refine (rset_any e8 e9 ho h.bel.size a s).mono ?_
  rintro e w' ⟨rfl, y', t, hs⟩
  exact ⟨rfl, Tw.stepR e1 e2 rfl e4 e5 e6 e7 e8 e10 h.bel t hs⟩
theorem Tw.unpinP (h : Tw W w p g q gq bd S R E) (hbd : bd ≤ 80000) (a : Int) : Calls Tryz.prog 14 #[.pointer (some ⟨p, 0, none⟩), .int .i64 a] w fun e w' => e = .returned (.int .i64 (unpinS S a).1) ∧ Tw W w' p g q gq (bd + 1) (unpinS S a).2 R E := by
  obtain ⟨x, y, rfl, e2, e3, e4, rfl, e6, e7, e8, e9, e10⟩ := h.ex
  refine (unpin_any e6 e7 (by omega) h.bel.size a).mono ?_
  rintro e w' ⟨rfl, x', t, hs, hg⟩
  exact ⟨rfl, Tw.stepP rfl e2 e3 e4 e6 e8 e9 e10 h.bel t hs hg⟩
theorem Tw.unpinR (h : Tw W w p g q gq bd S R E) {c : Nat} (ho : OkS c R) (hbd : c ≤ 80000) (a : Int) : Calls Tryz.prog 15 #[.pointer (some ⟨q, 0, none⟩), .int .i64 a] w fun e w' => e = .returned (.int .i64 (unpinS R a).1) ∧ Tw W w' p g q gq bd S (unpinS R a).2 E := by
  obtain ⟨x, y, e1, e2, rfl, e4, e5, e6, e7, e8, e9, e10⟩ := h.ex
  refine (runpin_any e8 e9 ho (by omega) h.bel.size a).mono ?_
  rintro e w' ⟨rfl, y', t, hs⟩
  exact ⟨rfl, Tw.stepR e1 e2 rfl e4 e5 e6 e7 e8 e10 h.bel t hs⟩
theorem Tw.evictP (h : Tw W w p g q gq bd S R E) (hbd : bd ≤ 80000) (n : Int) (h1 : -9223372036854775808 ≤ n) (h2 : n ≤ 9223372036854775807) : Calls Tryz.prog 18 #[.pointer (some ⟨p, 0, none⟩), .int .i64 n] w fun e w' => e = .returned (.int .i64 (evictS S n).1) ∧ Tw W w' p g q gq (bd + 1) (evictS S n).2 R E := by
  obtain ⟨x, y, rfl, e2, e3, e4, rfl, e6, e7, e8, e9, e10⟩ := h.ex
  refine (evict_any e6 e7 (by omega) h.bel.size n h1 h2).mono ?_
  rintro e w' ⟨rfl, x', t, hs, hg⟩
  exact ⟨rfl, Tw.stepP rfl e2 e3 e4 e6 e8 e9 e10 h.bel t hs hg⟩
theorem Tw.evictR (h : Tw W w p g q gq bd S R E) {c : Nat} (ho : OkS c R) (hbd : c ≤ 80000) (n : Int) (h1 : -9223372036854775808 ≤ n) (h2 : n ≤ 9223372036854775807) : Calls Tryz.prog 19 #[.pointer (some ⟨q, 0, none⟩), .int .i64 n] w fun e w' => e = .returned (.int .i64 (evictS R n).1) ∧ Tw W w' p g q gq bd S (evictS R n).2 E := by
  obtain ⟨x, y, e1, e2, rfl, e4, e5, e6, e7, e8, e9, e10⟩ := h.ex
  refine (revict_any e8 e9 ho (by omega) h.bel.size n h1 h2).mono ?_
  rintro e w' ⟨rfl, y', t, hs⟩
  exact ⟨rfl, Tw.stepR e1 e2 rfl e4 e5 e6 e7 e8 e10 h.bel t hs⟩
theorem Tw.flushP (h : Tw W w p g q gq bd S R E) (hbd : bd ≤ 80000) : Calls Tryz.prog 16 #[.pointer (some ⟨p, 0, none⟩)] w fun e w' => e = .returned (.int .i64 (flushS S).1) ∧ Tw W w' p g q gq (bd + 66) (flushS S).2 R E := by
  obtain ⟨x, y, rfl, e2, e3, e4, rfl, e6, e7, e8, e9, e10⟩ := h.ex
  refine (flush_any e6 e7 (by omega) h.bel.size).mono ?_
  rintro e w' ⟨rfl, x', t, hs, hg⟩
  exact ⟨rfl, Tw.stepP rfl e2 e3 e4 e6 e8 e9 e10 h.bel t hs hg⟩
theorem Tw.flushR (h : Tw W w p g q gq bd S R E) {c : Nat} (ho : OkS c R) (hbd : c ≤ 80000) : Calls Tryz.prog 17 #[.pointer (some ⟨q, 0, none⟩)] w fun e w' => e = .returned (.int .i64 (flushS R).1) ∧ Tw W w' p g q gq bd S (flushS R).2 E := by
  obtain ⟨x, y, e1, e2, rfl, e4, e5, e6, e7, e8, e9, e10⟩ := h.ex
  refine (rpflush_any e8 e9 ho (by omega) h.bel.size).mono ?_
  rintro e w' ⟨rfl, y', t, hs⟩
  exact ⟨rfl, Tw.stepR e1 e2 rfl e4 e5 e6 e7 e8 e10 h.bel t hs⟩

/-- What both tell, the same. -/
theorem Tw.few (h : Tw W w p g q gq bd S S E) : (heldS S).length ≤ 64 ∧ (dirtyS S).length ≤ 64 := by
  have ho := h.ok
  have h1 := pgs_len (fun _ => true) S.l
  have h2 := pgs_len (fun f => f.dirty) S.l
  have := ho.len
  have := ho.n
  exact ⟨by unfold heldS; rw [sortI_len]; omega, by unfold dirtyS; rw [sortI_len]; omega⟩
theorem Tw.heldP (h : Tw W w p g q gq bd S R E) : Calls Tryz.prog 27 #[.pointer (some ⟨p, 0, none⟩)] w fun e w' => ∃ v, e = .returned v ∧ IRow w' w.heap.size v (heldS S) ∧ Below w.heap.size w w' := by
  obtain ⟨x, y, rfl, e2, e3, e4, rfl, e6, e7, e8, e9, e10⟩ := h.ex
  exact held_all e6 e7
theorem Tw.dirtyP (h : Tw W w p g q gq bd S R E) : Calls Tryz.prog 29 #[.pointer (some ⟨p, 0, none⟩)] w fun e w' => ∃ v, e = .returned v ∧ IRow w' w.heap.size v (dirtyS S) ∧ Below w.heap.size w w' := by
  obtain ⟨x, y, rfl, e2, e3, e4, rfl, e6, e7, e8, e9, e10⟩ := h.ex
  exact dirty_all e6 e7
theorem Tw.readsP (h : Tw W w p g q gq bd S R E) : Calls Tryz.prog 31 #[.pointer (some ⟨p, 0, none⟩)] w fun e w' => e = .returned (.int .i64 (S.rd : Int)) ∧ w' = w := by
  obtain ⟨x, y, rfl, e2, e3, e4, rfl, e6, e7, e8, e9, e10⟩ := h.ex
  exact reads_any e6
theorem Tw.writesP (h : Tw W w p g q gq bd S R E) : Calls Tryz.prog 33 #[.pointer (some ⟨p, 0, none⟩)] w fun e w' => e = .returned (.int .i64 (S.wr : Int)) ∧ w' = w := by
  obtain ⟨x, y, rfl, e2, e3, e4, rfl, e6, e7, e8, e9, e10⟩ := h.ex
  exact writes_any e6
theorem Tw.opsP (h : Tw W w p g q gq bd S R E) : Calls Tryz.prog 35 #[.pointer (some ⟨g, 0, none⟩)] w fun e w' => e = .returned (.int .i64 S.D.ops) ∧ w' = w := by
  obtain ⟨x, y, e1, rfl, e3, e4, rfl, e6, e7, e8, e9, e10⟩ := h.ex
  exact ops_any e6.dev
theorem Tw.hldP (h : Tw W w p g q gq bd S R E) : Calls Tryz.prog 37 #[.pointer (some ⟨g, 0, none⟩)] w fun e w' => e = .returned (.int .i64 (S.D.held.length : Int)) ∧ w' = w := by
  obtain ⟨x, y, e1, rfl, e3, e4, rfl, e6, e7, e8, e9, e10⟩ := h.ex
  exact held_any e6.dev
theorem Tw.lenR (h : Tw W w p g q gq bd S S E) : ∃ y : RX, y.q = q ∧ y.g = gq ∧ Rp W.heap.size w y ∧ Rs S y ∧ y.l.length ≤ 1000 := by
  obtain ⟨x, y, e1, e2, e3, e4, e5, e6, e7, e8, e9, e10⟩ := h.ex
  have ho := h.ok
  have := ho.len
  have := ho.n
  exact ⟨y, e3, e4, e8, e9, by rw [e9.l]; omega⟩
theorem Tw.heldR (h : Tw W w p g q gq bd S S E) : Calls Tryz.prog 28 #[.pointer (some ⟨q, 0, none⟩)] w fun e w' => ∃ v, e = .returned v ∧ IRow w' w.heap.size v (heldS S) ∧ Below w.heap.size w w' := by
  obtain ⟨y, rfl, rfl, h1, h2, h3⟩ := h.lenR
  have := rpheld_any h1 h3
  rw [h2.l] at this
  exact this
theorem Tw.dirtyR (h : Tw W w p g q gq bd S S E) : Calls Tryz.prog 30 #[.pointer (some ⟨q, 0, none⟩)] w fun e w' => ∃ v, e = .returned v ∧ IRow w' w.heap.size v (dirtyS S) ∧ Below w.heap.size w w' := by
  obtain ⟨y, rfl, rfl, h1, h2, h3⟩ := h.lenR
  have := rpdirty_any h1 h3
  rw [h2.l] at this
  exact this
theorem Tw.readsR (h : Tw W w p g q gq bd S S E) : Calls Tryz.prog 32 #[.pointer (some ⟨q, 0, none⟩)] w fun e w' => e = .returned (.int .i64 (S.rd : Int)) ∧ w' = w := by
  obtain ⟨y, rfl, rfl, h1, h2, h3⟩ := h.lenR
  rw [← h2.rd]
  exact rpreads_any h1
theorem Tw.writesR (h : Tw W w p g q gq bd S S E) : Calls Tryz.prog 34 #[.pointer (some ⟨q, 0, none⟩)] w fun e w' => e = .returned (.int .i64 (S.wr : Int)) ∧ w' = w := by
  obtain ⟨y, rfl, rfl, h1, h2, h3⟩ := h.lenR
  rw [← h2.wr]
  exact rpwrites_any h1
theorem Tw.opsR (h : Tw W w p g q gq bd S S E) : Calls Tryz.prog 36 #[.pointer (some ⟨gq, 0, none⟩)] w fun e w' => e = .returned (.int .i64 S.D.ops) ∧ w' = w := by
  obtain ⟨y, rfl, rfl, h1, h2, h3⟩ := h.lenR
  rw [h2.rel.ops]
  exact rops_any h1.dev
theorem Tw.hldR (h : Tw W w p g q gq bd S S E) : Calls Tryz.prog 38 #[.pointer (some ⟨gq, 0, none⟩)] w fun e w' => e = .returned (.int .i64 (S.D.held.length : Int)) ∧ w' = w := by
  obtain ⟨y, rfl, rfl, h1, h2, h3⟩ := h.lenR
  rw [h2.rel.held]
  exact rheld_any h1.dev

/-- The device by itself. -/
theorem OkS.dev {b c : Nat} (h : OkS b S) {D : DS} (hI : Inv c D) (hn : D.n = S.D.n) (hbc : b ≤ c) : OkS c { S with D := D } :=
  ⟨hI, fun f hf => by obtain ⟨r1, r2, r3⟩ := h.pg f hf; exact ⟨by show f.pg < D.n; rw [hn]; exact r1, r2, by omega⟩, h.uniq, h.n, h.len, Nat.le_trans h.rd hbc, Nat.le_trans h.wr hbc⟩

theorem Tw.devP (h : Tw W w p g q gq bd S R E) {x : PX} {y : RX} (e1 : x.p = p) (e2 : x.g = g) (e3 : y.q = q) (e4 : y.g = gq) (e5 : x.st = S) (e6 : Pd W.heap.size w x) (e7 : Good bd x) (e8 : Rp W.heap.size w y) (e9 : Rs R y) (e10 : ∀ e ∈ E, w.heap[e.1]? = some e.2 ∧ ¬ x.ft e.1 ∧ ¬ y.ft e.1)
    {D : DS} (d : DTo W.heap.size w x.g x.gs x.dv D w') (hI : Inv bd D) (hn : D.n = S.D.n) : Tw W w' p g q gq bd { S with D := D } R E := by
  obtain ⟨dv, t⟩ := e6.devTo d
  subst e5
  exact Tw.stepP e1 e2 e3 e4 e6 e8 e9 e10 h.bel t rfl ⟨e7.fv, e7.O, e7.ok.dev hI hn (Nat.le_refl _)⟩

theorem Tw.armP (h : Tw W w p g q gq bd S R E) (a : Int) (ha : a ≤ 9223372036854775807) : Calls Tryz.prog 20 #[.pointer (some ⟨g, 0, none⟩), .int .i64 a] w fun e w' => e = .returned (.tuple #[]) ∧ Tw W w' p g q gq bd { S with D := { S.D with left := max a (-1) } } R E := by
  have ho := h.ok
  obtain ⟨x, y, e1, rfl, e3, e4, rfl, e6, e7, e8, e9, e10⟩ := h.ex
  refine (arm_any e6.dev a _ rfl).mono ?_
  rintro e w' ⟨rfl, d, f⟩
  exact ⟨rfl, h.devP e1 rfl e3 e4 rfl e6 e7 e8 e9 e10 (.of d f) (ho.inv.armed a ha) rfl⟩
theorem Tw.refuseP (h : Tw W w p g q gq bd S R E) (a : Int) (ha : a ≤ 9223372036854775807) : Calls Tryz.prog 22 #[.pointer (some ⟨g, 0, none⟩), .int .i64 a] w fun e w' => e = .returned (.tuple #[]) ∧ Tw W w' p g q gq bd { S with D := { S.D with next := max a 0 } } R E := by
  have ho := h.ok
  obtain ⟨x, y, e1, rfl, e3, e4, rfl, e6, e7, e8, e9, e10⟩ := h.ex
  refine (refuse_any e6.dev a _ rfl).mono ?_
  rintro e w' ⟨rfl, d, f⟩
  exact ⟨rfl, h.devP e1 rfl e3 e4 rfl e6 e7 e8 e9 e10 (.of d f) (ho.inv.refused a ha) rfl⟩
theorem Tw.crashP (h : Tw W w p g q gq bd S R E) (hbd : bd ≤ 80000) : Calls Tryz.prog 24 #[.pointer (some ⟨g, 0, none⟩), .slice none 0 0] w fun e w' => e = .returned (.tuple #[]) ∧ Tw W w' p g q gq bd { S with D := S.D.crashed [] } R E := by
  have ho := h.ok
  obtain ⟨x, y, e1, rfl, e3, e4, rfl, e6, e7, e8, e9, e10⟩ := h.ex
  have hlen := ho.inv.len
  refine (crash_any e6.dev [] none 0 (Or.inl rfl) (fun b off e _ => by cases e) ho.inv.held ho.inv.safe (show x.st.D.held.length ≤ 1000000 by omega)).mono ?_
  rintro e w' ⟨rfl, d, f⟩
  exact ⟨rfl, h.devP e1 rfl e3 e4 rfl e6 e7 e8 e9 e10 (.nil d f) (ho.inv.crashed []) rfl⟩

theorem Tw.devR {x : PX} {y : RX} (e1 : x.p = p) (e2 : x.g = g) (e3 : y.q = q) (e4 : y.g = gq) (e5 : x.st = S) (e6 : Pd W.heap.size w x) (e7 : Good bd x) (e8 : Rp W.heap.size w y) (e9 : Rs R y) (e10 : ∀ e ∈ E, w.heap[e.1]? = some e.2 ∧ ¬ x.ft e.1 ∧ ¬ y.ft e.1) (hb : Below W.heap.size W w)
    {D : DS} {Q : RS} (d : RTo W.heap.size w y.g y.h Q w') (hr : Rel D Q) : Tw W w' p g q gq bd S { R with D := D } E := by
  obtain ⟨h', t⟩ := e8.devTo d
  exact Tw.stepR e1 e2 e3 e4 e5 e6 e7 e8 e10 hb t ⟨e9.n, e9.l, e9.rd, e9.wr, hr⟩
theorem Tw.armR (h : Tw W w p g q gq bd S R E) (a : Int) : Calls Tryz.prog 21 #[.pointer (some ⟨gq, 0, none⟩), .int .i64 a] w fun e w' => e = .returned (.tuple #[]) ∧ Tw W w' p g q gq bd S { R with D := { R.D with left := max a (-1) } } E := by
  obtain ⟨x, y, e1, e2, e3, rfl, e5, e6, e7, e8, e9, e10⟩ := h.ex
  refine (rarm_any e8.dev a).mono ?_
  rintro e w' ⟨rfl, d, f⟩
  exact ⟨rfl, Tw.devR e1 e2 e3 rfl e5 e6 e7 e8 e9 e10 h.bel (.of d f) (e9.rel.arms a)⟩
theorem Tw.refuseR (h : Tw W w p g q gq bd S R E) (a : Int) : Calls Tryz.prog 23 #[.pointer (some ⟨gq, 0, none⟩), .int .i64 a] w fun e w' => e = .returned (.tuple #[]) ∧ Tw W w' p g q gq bd S { R with D := { R.D with next := max a 0 } } E := by
  obtain ⟨x, y, e1, e2, e3, rfl, e5, e6, e7, e8, e9, e10⟩ := h.ex
  refine (rrefuse_any e8.dev a _ rfl).mono ?_
  rintro e w' ⟨rfl, d, f⟩
  exact ⟨rfl, Tw.devR e1 e2 e3 rfl e5 e6 e7 e8 e9 e10 h.bel (.of d f) (e9.rel.refuses a)⟩
theorem Tw.crashR (h : Tw W w p g q gq bd S R E) {c : Nat} (ho : OkS c R) (hbd : c ≤ 80000) : Calls Tryz.prog 25 #[.pointer (some ⟨gq, 0, none⟩), .slice none 0 0] w fun e w' => e = .returned (.tuple #[]) ∧ Tw W w' p g q gq bd S { R with D := R.D.crashed [] } E := by
  obtain ⟨x, y, e1, e2, e3, rfl, e5, e6, e7, e8, e9, e10⟩ := h.ex
  have hlen := ho.inv.len
  have hr := e9.rel
  have hn := ho.inv.n
  have hh' : ∀ x ∈ y.Q.held, x.1 < y.Q.n ∧ x.2.size = 512 := by rw [← hr.held, ← hr.n]; exact ho.inv.held
  have hs' : ∀ j, j < y.Q.n → (y.Q.safe j).size = 512 := by rw [← hr.safe, ← hr.n]; exact ho.inv.safe
  refine (rcrash_any e8.dev [] none 0 (Or.inl rfl) (fun b off e _ => by cases e) hh' hs' (by rw [← hr.held]; omega) h.bel.size (by rw [← hr.n]; omega)).mono ?_
  rintro e w' ⟨rfl, d⟩
  exact ⟨rfl, Tw.devR e1 e2 e3 rfl e5 e6 e7 e8 e9 e10 h.bel d (hr.crashed ho.inv [])⟩
end

set_option maxHeartbeats 800000 in
set_option maxRecDepth 100000 in
theorem intsEq_any {w : World} {A B : Nat} {va vb : Value} (L : List Int) (h : IRow w A va L) (h' : IRow w B vb L) (hl : L.length ≤ 1000000) :
    Calls Tryz.prog 26 #[va, vb] w fun e w' => e = .returned (.bool true) ∧ Below w.heap.size w w' := by
  obtain ⟨a, c, rfl, hc, _⟩ := h.len
  obtain ⟨a', c', rfl, hc', _⟩ := h'.len
  go_enter Tryz.func26, Tryz.ntmps26
  go_wp2_with fail
  go_loopw [5] (fun si wr => ∃ k : Nat, k ≤ L.length ∧ si = .int .i64 (k : Int) ∧ Below w.heap.size w wr) (fun si _ => L.length - (intOf si).toNat)
  case atStart => exact ⟨0, by omega, rfl, Below.refl _ _⟩
  case round =>
    obtain ⟨k, hk, rfl, hb⟩ := hrel
    by_cases hlt : k < L.length
    · have hx : L[k]? = some L[k] := by simp [hlt]
      generalize L[k] = x at hx
      obtain ⟨b, _, e, _, _, hbl, q1⟩ := h.cell hx
      cases e
      obtain ⟨b', _, e, _, _, hbl', q2⟩ := h'.cell hx
      cases e
      have c1 := (hb.cell (p := ⟨b, k, none⟩) hbl).trans q1
      have c2 := (hb.cell (p := ⟨b', k, none⟩) hbl').trans q2
      have hlt2 : (k : Int) < (L.length : Int) := by omega
      clear q1 q2 hx
      go_wp2_with fail
      go_region
      go_wp2_with fail
      go_roundw
      case rel => exact ⟨k + 1, by omega, by go_num, hb.drew⟩
      case measure => simp [intOf]; omega
    · obtain rfl : k = L.length := by omega
      go_wp2_with fail
      go_ret
      exact ⟨rfl, hb⟩
end Go.Proofs.YtghocbaafdnddaaGreat
end

section
namespace Go.Proofs.YtghocbaafdnddaaGreat
open Go.RowKit Go.ChangeShapes Go.WideShapes Go.ChangeAt Go.Deep
open Go.ChangeMaps (open_string shut_string)

theorem Tryz.cellsInt : Tryz.prog.cellsOf 3 = 1 := by kernel_rfl
theorem Tryz.cellsU8 : Tryz.prog.cellsOf 5 = 1 := by kernel_rfl
theorem Tryz.cellsStep : Tryz.prog.cellsOf 38 = 3 := by kernel_rfl

def i64B (x : Int) : Prop := -9223372036854775808 ≤ x ∧ x ≤ 9223372036854775807

/-- A list in memory, each element some cells; an empty one anywhere. -/
def SlG {α : Type} (W : World) (a : Option Addr) (s : Nat) (cells : α → List Value) (L : List α) : Prop :=
  L = [] ∨ ∃ b off, a = some ⟨b, off, none⟩ ∧ b < W.heap.size ∧ ∀ i p, L[i]? = some p → ∀ j u, (cells p)[j]? = some u → W.cell? ⟨b, off + i * s + j, none⟩ = some u

theorem SlG.kept {α : Type} {W W' : World} {a : Option Addr} {s : Nat} {cells : α → List Value} {L : List α} (h : SlG W a s cells L) (hb : Below W.heap.size W W') : SlG W' a s cells L := by
  rcases h with h | ⟨b, off, e, hlt, hr⟩
  · exact Or.inl h
  · exact Or.inr ⟨b, off, e, by have := hb.size; omega, fun i p hp j u hu => (hb.cell (p := ⟨b, _, none⟩) hlt).trans (hr i p hp j u hu)⟩

section
variable {H : Type} {enc : TypeId × Value → H} {W : World} {base : Nat}

theorem trod_list {α : Type} (dflt : α) (t e s : Nat) (ht : Tryz.prog.underlying t = some (.slice e)) (hs : Tryz.prog.cellsOf e = s) (hs0 : 0 < s) (cells : α → List Value) (ok : α → Prop) (hcl : ∀ p, (cells p).length = s)
    (helem : ∀ (fuel : Nat) (cs : List Value) (x : DataW H × List MemPlace), DataW.trod enc Tryz.prog W 0 (fun _ => true) true fuel e cs = some x → ∃ p, cs = cells p ∧ ok p)
    {fuel : Nat} {cs : List Value} {x : DataW H × List MemPlace} (h : DataW.trod enc Tryz.prog W 0 (fun _ => true) true fuel t cs = some x) :
    ∃ (a : Option Addr) (L : List α) (cap : Nat), cs = [.slice a L.length cap] ∧ SlG W a s cells L ∧ (a = none → cap = 0) ∧ L.length ≤ cap ∧ cap ≤ maxLen ∧ ∀ p ∈ L, ok p := by
  rcases open_slice ht h with ⟨hcs, _⟩ | ⟨a, l, c, m, n, D, Pl, hcs, _, hl, hm, hmm, _, hx⟩
  · exact ⟨none, [], 0, hcs, Or.inl rfl, fun _ => rfl, Nat.le_refl _, Nat.zero_le _, by simp⟩
  · have hml : l ≤ m := by rw [hmm]; split <;> omega
    rw [hs] at hx
    have inst : Inhabited α := ⟨dflt⟩
    obtain ⟨f, hfn⟩ := choose_lt (α := α) (n := l) (p := fun i p => W.cells? 0 (a.add (i * s)) s = some (cells p) ∧ ok p) (fun i hi => by
      obtain ⟨cs', h1, h2⟩ := hx i (by omega)
      obtain ⟨p, rfl, hp⟩ := helem _ _ _ h2
      exact ⟨p, h1, hp⟩)
    have hlen : ((List.range l).map f).length = l := by simp
    refine ⟨some a, (List.range l).map f, c, by rw [hlen]; exact hcs, ?_, (fun h => by cases h), by rw [hlen]; omega, by omega, ?_⟩
    · by_cases h0 : l = 0
      · subst h0; exact Or.inl rfl
      · right
        obtain ⟨b, off, spot⟩ := a
        have hc0 : ∃ u, W.cell? (⟨b, off, spot⟩ : Addr) = some u := by
          have := (World.cells?_some (hfn 0 (by omega)).1).2.2 0 hs0
          rw [Nat.zero_mul] at this
          have h2 : ∃ u, (cells (f 0))[0]? = some u := ⟨_, List.getElem?_eq_getElem (by rw [hcl]; exact hs0)⟩
          obtain ⟨u, hu⟩ := h2
          rw [hu] at this
          exact ⟨u, by simpa [Addr.add] using this⟩
        obtain ⟨u0, hu0⟩ := hc0
        have hspot : spot = none := by simpa using World.cell?_spot hu0
        subst hspot
        refine ⟨b, off, rfl, World.block_lt_of_cell? W _ hu0, ?_⟩
        intro i p hp j u hu
        have hi : i < l := by
          have := (List.getElem?_eq_some_iff.1 hp).1
          simpa using this
        have hpe : p = f i := by
          simp [hi] at hp
          exact hp.symm
        subst hpe
        have hj : j < s := by rw [← hcl (f i)]; exact (List.getElem?_eq_some_iff.1 hu).1
        have e0 := (World.cells?_some (hfn i hi).1).2.2 j hj
        rw [Addr.add_lit, Addr.add_lit, hu] at e0
        exact e0
    · intro p hp
      simp only [List.mem_map, List.mem_range] at hp
      obtain ⟨i, hi, rfl⟩ := hp
      exact (hfn i hi).2


def u8B (x : Int) : Prop := 0 ≤ x ∧ x ≤ 255

/-- A step. -/
structure Sp where
  kind : Int
  at_ : Int
  fill : Int
structure Sp.ok (s : Sp) : Prop where
  kB : i64B s.kind
  aB : i64B s.at_
  fB : u8B s.fill
def Sp.cells (s : Sp) : List Value := [.int .i64 s.kind, .int .i64 s.at_, .int .u8 s.fill]

set_option maxRecDepth 100000 in
theorem trod_step {fuel : Nat} {cs : List Value} {x : DataW H × List MemPlace} (h : DataW.trod enc Tryz.prog W 0 (fun _ => true) true fuel 38 cs = some x) : ∃ s : Sp, cs = s.cells ∧ s.ok := by
  obtain ⟨y0, y1, y2, n, _, hl, h0, h1, h2⟩ := trod_struct3 Tryz.underlying38 h
  rw [Tryz.cellsStep] at hl
  match cs, hl with
  | [a, b, c], _ =>
    obtain ⟨k, e0, _, w0⟩ := DataW.trod_int (t := 3) Tryz.underlying3 h0
    obtain ⟨k1, e1, _, w1⟩ := DataW.trod_int (t := 3) Tryz.underlying3 h1
    obtain ⟨k2, e2, _, w2⟩ := DataW.trod_int (t := 5) Tryz.underlying5 h2
    simp [Tryz.cellsInt, Tryz.cellsU8] at e0 e1 e2
    subst e0 e1 e2
    exact ⟨⟨k, k1, k2⟩, rfl, bounds_i64 w0, bounds_i64 w1, bounds_u8 w2⟩

set_option maxRecDepth 100000 in
theorem open_steps {v : Value} {d : DataW H} {ps : List MemPlace} (hv : Value.okWide Tryz.prog W .any base 22 v) (h : DataW.Trod enc Tryz.prog W 0 (fun _ => true) true 22 v d ps) :
    ∃ (a : Option Addr) (L : List Sp) (cap : Nat), v = .slice a L.length cap ∧ SlG W a 3 Sp.cells L ∧ L.length ≤ cap ∧ cap ≤ maxLen ∧ ∀ s ∈ L, s.ok := by
  obtain ⟨a0, len, cap, rfl⟩ := okWide_slice Tryz.underlying22 hv
  obtain ⟨fuel, hf⟩ := h
  obtain ⟨a, L, c, hcs, r1, _, r3, r4, r5⟩ := trod_list (α := Sp) ⟨0, 0, 0⟩ 22 38 3 Tryz.underlying22 Tryz.cellsStep (by decide) Sp.cells Sp.ok (fun _ => rfl) (fun fuel cs x h => trod_step h) hf
  simp [Value.cells] at hcs
  obtain ⟨rfl, rfl, rfl⟩ := hcs
  exact ⟨_, _, _, rfl, r1, r3, r4, r5⟩
end
end Go.Proofs.YtghocbaafdnddaaGreat
end

section
namespace Go.Proofs.YtghocbaafdnddaaGreat
open Go.RowKit

theorem step_at {W w : World} {p g q gq bd : Nat} {S R : St} {E : List (Nat × Obj)} {H : Nat} {k a f : Int} (h : Tw W w p g q gq bd S R ((H, .cells #[.int .i64 k, .int .i64 a, .int .u8 f] 38 (0, 0)) :: E)) : w.cell? ⟨H, 1, none⟩ = some (.int .i64 a) := by
  have := h.at List.mem_cons_self
  simp [World.cell?, this]
theorem step_fill {W w : World} {p g q gq bd : Nat} {S R : St} {E : List (Nat × Obj)} {H : Nat} {k a f : Int} (h : Tw W w p g q gq bd S R ((H, .cells #[.int .i64 k, .int .i64 a, .int .u8 f] 38 (0, 0)) :: E)) : w.cell? ⟨H, 2, none⟩ = some (.int .u8 f) := by
  have := h.at List.mem_cons_self
  simp [World.cell?, this]

theorem RDev.low {B B' : Nat} {w : World} {g : Nat} {h : RH} {Q : RS} (r : RDev B w g h Q) (hB : B' ≤ B) : RDev B' w g h Q :=
  ⟨r.dev, owns_low r.seen hB, owns_low r.safe hB, owns_low r.held hB, Nat.le_trans hB r.gB, r.ne⟩

/-- Both devices by themselves. -/
structure Dv (W w : World) (g gq : Nat) (D : DS) (Q : RS) : Prop where
  ex : ∃ gs dv h, Dev W.heap.size w g gs dv D ∧ RDev W.heap.size w gq h Q
  rel : Rel D Q
  inv : ∃ b, Inv b D
  bel : Below W.heap.size W w
theorem Dv.below {W w w' : World} {g gq : Nat} {D : DS} {Q : RS} (h : Dv W w g gq D Q) (hb : Below w.heap.size w w') : Dv W w' g gq D Q := by
  obtain ⟨gs, dv, r, a, b⟩ := h.ex
  exact ⟨⟨gs, dv, r, a.below hb, b.kept (fun k hk => hb.block k (b.lt k hk))⟩, h.rel, h.inv, below2 h.bel hb⟩
theorem Dv.read {W w : World} {g gq : Nat} {D : DS} {Q : RS} (h : Dv W w g gq D Q) (x : Int) : ∃ (T : ByteArray) (E : Int),
    (Calls Tryz.prog 39 #[.pointer (some ⟨g, 0, none⟩), .int .i64 x] w fun e w' => e = .returned (.tuple #[.string T, .int .i64 E]) ∧ Below w.heap.size w w') ∧
    ∀ v, Dv W v g gq D Q → Calls Tryz.prog 40 #[.pointer (some ⟨gq, 0, none⟩), .int .i64 x] v fun e w' => e = .returned (.tuple #[.string T, .int .i64 E]) ∧ w' = v := by
  obtain ⟨b, hi⟩ := h.inv
  obtain ⟨T, E, c1, c2⟩ := read_both b D Q hi h.rel x
  obtain ⟨gs, dv, r, a, _⟩ := h.ex
  refine ⟨T, E, c1 _ _ _ _ _ a, fun v hv => ?_⟩
  obtain ⟨_, _, r', _, b'⟩ := hv.ex
  exact c2 _ _ _ _ b'
theorem Tw.dv {W w : World} {p g q gq bd : Nat} {S : St} {E : List (Nat × Obj)} (h : Tw W w p g q gq bd S S E) : ∃ Q, Dv W w g gq S.D Q := by
  obtain ⟨x, y, e1, rfl, e3, rfl, rfl, e6, e7, e8, e9, e10⟩ := h.ex
  exact ⟨y.Q, ⟨_, _, _, e6.dev, e8.dev⟩, e9.rel, ⟨_, e7.ok.inv⟩, h.bel⟩
theorem tw_new {W w2 w3 : World} {g gq m : Nat} {h : RH} {D : DS} {Q : RS} {x : PX} (hd : Pd W.heap.size w3 x) (hg : Good 0 x) (hx : x.st = ⟨m, [], 0, 0, D⟩) (hxg : x.g = g) (hr : RDev W.heap.size w2 gq h Q) (hrel : Rel D Q) (hb2 : Below W.heap.size W w2) (hb3 : Below w2.heap.size w2 w3) :
    Tw W (w3.alloc (.cells #[.pointer (some ⟨gq, 0, none⟩), .int .i64 (m : Int), .slice none 0 0, .int .i64 0, .int .i64 0] 84)) x.p g w3.heap.size gq 0 ⟨m, [], 0, 0, D⟩ ⟨m, [], 0, 0, D⟩ [] := by
  have ha := below_alloc1 w3 (.cells #[.pointer (some ⟨gq, 0, none⟩), .int .i64 (m : Int), .slice none 0 0, .int .i64 0, .int .i64 0] 84)
  have hw3 := below2 hb2 hb3
  have hr3 : RDev W.heap.size w3 gq h Q := hr.kept (fun k hk => hb3.block k (hr.lt k hk))
  refine ⟨⟨x, ⟨w3.heap.size, gq, h, .slice none 0 0, m, [], 0, 0, Q⟩, rfl, hxg, rfl, rfl, hx, hd.below ha, hg, ⟨heap_alloc_new _ _, World.ownsRow_nil _ _ _ _, hw3.size, hr3.kept (fun k hk => ha.block k (hr3.lt k hk))⟩, ⟨rfl, rfl, rfl, rfl, hrel⟩, fun e he => by cases he⟩, below2 hw3 ha⟩

set_option maxHeartbeats 12800000 in
set_option maxRecDepth 100000 in
theorem poolPlays_walk (se fr : Int) (a : Option Addr) (L : List Sp) (c : Nat) (w0 : World) (hse : i64B se) (_hfr : i64B fr) (hL : SlG w0 a 3 Sp.cells L) (hLb : ∀ x ∈ L, x.ok) (_hc : L.length ≤ c) (hcm : c ≤ maxLen) :
    Calls Tryz.prog 3 #[.int .i64 se, .int .i64 fr, .slice a L.length c] w0 fun e w' => e = .returned (.bool true) ∧ Below w0.heap.size w0 w' := by
  have hcm2 : (L.length : Int) ≤ 9223372036854775807 := by unfold maxLen at hcm; omega
  have cM := mod_any se 30 w0 hse.1 hse.2 (by decide) (by decide)
  go_enter Tryz.func3, Tryz.ntmps3
  go_wp2_with fail
  refine cM.mono ?_
  rintro e wm ⟨r, rfl, hr, hw0⟩
  rw [hw0]
  clear cM hw0
  obtain ⟨n, hn⟩ : ∃ n, 1 + r = n := ⟨_, rfl⟩
  have hnI : (1 : Int) + (r : Int) = (n : Int) := by omega
  have hnb : (n : Int) ≤ 30 := by omega
  have cN := new_any n w0 (by omega) (by omega)
  go_wp2_with fail
  refine cN.mono ?_
  rintro e w1 ⟨g, gs, rfl, d1, b1⟩
  clear cN
  have cQ := rnew_any n w1 (by omega) (by omega)
  go_wp2_with fail
  refine cQ.mono ?_
  rintro e w2 ⟨gq, h, rfl, rd, b2⟩
  clear cQ
  have hb2 := below2 b1 b2
  have d2 := d1.below b2
  have r2 := rd.low b1.size
  have HD2 : Hid (Dev w0.heap.size w2 g gs (.slice none 0 0) (D0 n) ∧ RDev w0.heap.size w2 gq h (R0 n) ∧ Below w0.heap.size w0 w2) := ⟨d2, r2, hb2⟩
  have HI : Hid (Inv 0 (D0 n)) := inv_new n (by omega) (by omega)
  clear d1 rd b1 b2 r2 hn hnI hr
  by_cases hfb : fr < 1 ∨ 64 < fr
  · have cP := pnew_bad (w := w2) g fr hfb
    have cR := rpnew_bad w2 gq fr hfb
    clear hfb d2 hb2
    go_wp2_with fail
    refine cP.mono ?_
    rintro e v1 ⟨rfl, z1⟩
    rw [z1]
    clear z1 cP
    go_wp2_with fail
    refine cR.mono ?_
    rintro e v2 ⟨rfl, z2⟩
    rw [z2]
    clear z2 cR
    obtain ⟨D, Q, DV⟩ : ∃ D Q, Hid (Dv w0 w2 g gq D Q) := ⟨_, _, ⟨⟨_, _, _, HD2.out.1, HD2.out.2.1⟩, rel_new n, ⟨0, HI.out⟩, HD2.out.2.2⟩⟩
    clear HD2 HI
    go_wp2_with fail
    go_loopw [16] (fun si wr => si = .int .i64 0 ∧ wr = w2) (fun _ _ => 0)
    case atStart => exact ⟨rfl, rfl⟩
    case round =>
      obtain ⟨rfl, rfl⟩ := hrel
      go_wp2_with fail
      all_goals try (exfalso; omega)
      all_goals (
        go_loopw [23] (fun si wr => ∃ j : Nat, j ≤ n ∧ si = .int .i64 (j : Int) ∧ Dv w0 wr g gq D Q) (fun si _ => n - (intOf si).toNat)
        case atStart => exact ⟨0, by omega, rfl, DV.out⟩
        case round =>
          obtain ⟨j, hj, rfl, dv⟩ := hrel
          by_cases hjn : j < n
          · have hjn2 : (j : Int) < (n : Int) := by omega
            obtain ⟨T, E, c1, c2⟩ := dv.read (j : Int)
            have DW : Hid (Dv w0 wr g gq D Q) := dv
            clear dv
            go_wp2_with fail
            refine c1.mono ?_
            rintro e v1 ⟨rfl, z1⟩
            clear c1
            have c3 := c2 v1 (DW.out.below z1)
            have DW2 : Hid (Dv w0 v1 g gq D Q) := DW.out.below z1
            clear c2 DW
            go_wp2_with fail
            refine c3.mono ?_
            rintro e v2 ⟨rfl, z2⟩
            rw [z2]
            clear z2 c3
            go_wp2_with fail
            go_roundw
            case rel => exact ⟨j + 1, by omega, by go_num, DW2.out⟩
            case measure => simp [intOf]; omega
          · obtain rfl : j = n := by omega
            have cW := wakes_any wr
            have hb9 := dv.bel
            clear dv
            go_wp2_with fail
            refine cW.mono ?_
            rintro e w9 ⟨rfl, hb10⟩
            go_wp2_with fail
            go_ret
            exact ⟨rfl, below2 hb9 hb10⟩)
  · obtain ⟨m, rfl⟩ : ∃ m : Nat, fr = (m : Int) := ⟨fr.toNat, by omega⟩
    have cP := new_pool g gs m _ (D0 n) 0 (by omega) (by omega) d2 HI.out hb2.size
    clear d2 hb2
    have hm1 : 1 ≤ m := by omega
    have hm2 : m ≤ 64 := by omega
    clear hfb
    go_wp2_with fail
    refine cP.mono ?_
    rintro e w3 ⟨x, rfl, e4, e5, e3, e2, _, b3⟩
    clear cP
    have cR := rpnew_ok w3 gq m hm1 hm2
    have t0 := tw_new e4 e5 e3 e2 HD2.out.2.1 (rel_new n) HD2.out.2.2 b3
    generalize x.p = p at *
    clear e4 e5 e3 e2 HD2 HI b3
    go_wp2_with fail
    refine cR.mono ?_
    rintro e w4 ⟨rfl, z4⟩
    rw [← z4] at t0
    clear z4 cR
    generalize w3.heap.size = q at *
    have T0 : Hid (Tw w0 w4 p g q gq 0 _ _ []) := t0
    clear t0
    go_wp2_with fail
    go_loopw [16] (fun si wr => ∃ (i : Nat) (S : St), i ≤ 200 ∧ si = .int .i64 (i : Int) ∧ Tw w0 wr p g q gq (66 * i) S S []) (fun si _ => 200 - (intOf si).toNat)
    case atStart => exact ⟨0, _, Nat.zero_le _, rfl, T0.out⟩
    case round =>
      obtain ⟨i, S, hi2, rfl, hre⟩ := hrel
      have hbw := hre.bel
      by_cases hgo : i < L.length ∧ i < 200
      · obtain ⟨hlt, hlt2⟩ := hgo
        have hx : L[i]? = some L[i] := by simp [hlt]
        have hxb := hLb L[i] (List.getElem_mem hlt)
        generalize L[i] = sp at hx hxb
        obtain ⟨bl, off, rfl, hbl, hcells⟩ := hL.resolve_left (fun e => by rw [e] at hlt; simp at hlt)
        obtain ⟨kind, at_, fill⟩ := sp
        have s0 : w0.cell? ⟨bl, off + i * 3, none⟩ = some (.int .i64 kind) := hcells i _ hx 0 (.int .i64 kind) rfl
        have s1 : w0.cell? ⟨bl, off + i * 3 + 1, none⟩ = some (.int .i64 at_) := hcells i _ hx 1 (.int .i64 at_) rfl
        have s2 : w0.cell? ⟨bl, off + i * 3 + 2, none⟩ = some (.int .u8 fill) := hcells i _ hx 2 (.int .u8 fill) rfl
        have aB : i64B at_ := hxb.aB
        have fB : u8B fill := hxb.fB
        clear hcells hx hxb
        obtain ⟨fb, hfb⟩ : ∃ fb : UInt8, fill = (fb.toNat : Int) := ⟨UInt8.ofNat fill.toNat, by have := fB.1; have := fB.2; rw [UInt8.toNat_ofNat']; omega⟩
        subst hfb
        have d0 := (hbw.cell (p := ⟨bl, off + i * 3, none⟩) hbl).trans s0
        have d1 := (hbw.cell (p := ⟨bl, off + i * 3 + 1, none⟩) hbl).trans s1
        have d2 := (hbw.cell (p := ⟨bl, off + i * 3 + 2, none⟩) hbl).trans s2
        have ho := hre.ok
        have t1 := hre.alloc (.cells #[.int .i64 kind, .int .i64 at_, .int .u8 (fb.toNat : Int)] 38)
        have hi3 : i + 1 ≤ 200 := by omega
        have hlti : (i : Int) < (L.length : Int) := by omega
        have hlti2 : (i : Int) < 200 := by omega
        clear s0 s1 s2 hre hbw hL hLb T0 fB
        by_cases hk0 : kind = 0
        · subst hk0

          as_aux_lemma =>
            have c1 := t1.pinP (by omega) at_
            obtain ⟨P, hP⟩ : ∃ P, pinS S at_ = P := ⟨_, rfl⟩
            rw [hP] at c1
            go_wp2_with fail
            refine c1.mono ?_
            rintro e w2 ⟨rfl, t2⟩
            have k1 := step_at t2
            have c2 := t2.pinR ho (by omega) at_
            rw [hP] at c2
            clear c1 t1 d0 d1 d2
            go_wp2_with fail
            refine c2.mono ?_
            rintro e w3 ⟨rfl, t3⟩
            have T : Hid (Tw w0 w3 p g q gq (66 * (i + 1)) P.2 P.2 []) := (t3.mono (by omega)).less (fun y hy => by cases hy)
            clear c2 t2 t3 k1 hP
            generalize P.2 = Z at *

            have hfew := T.out.few
            obtain ⟨HH, hHH⟩ : ∃ HH, heldS Z = HH := ⟨_, rfl⟩
            obtain ⟨DD, hDD⟩ : ∃ DD, dirtyS Z = DD := ⟨_, rfl⟩
            rw [hHH, hDD] at hfew
            have hf1 : HH.length ≤ 1000000 := by omega
            have hf2 : DD.length ≤ 1000000 := by omega
            clear hfew
            have c1 := T.out.heldP
            rw [hHH] at c1
            go_wp2_with fail
            refine c1.mono ?_
            rintro e v1 ⟨va, rfl, r1, z1⟩
            obtain ⟨a1, n1, rfl, _, _⟩ := r1.len
            have T1 : Hid (Tw w0 v1 p g q gq (66 * (i + 1)) Z Z []) := T.out.below z1
            clear c1 T
            have c2 := T1.out.heldR
            rw [hHH] at c2
            go_wp2_with fail
            refine c2.mono ?_
            rintro e v2 ⟨vb, rfl, r2, z2⟩
            obtain ⟨a2, n2, rfl, _, _⟩ := r2.len
            have r1b := r1.below' z2
            have T2 : Hid (Tw w0 v2 p g q gq (66 * (i + 1)) Z Z []) := T1.out.below z2
            clear c2 T1 r1 z1 z2
            have c3 := intsEq_any HH r1b r2 hf1
            go_wp2_with fail
            refine c3.mono ?_
            rintro e v3 ⟨rfl, z3⟩
            have T3 : Hid (Tw w0 v3 p g q gq (66 * (i + 1)) Z Z []) := T2.out.below z3
            clear c3 T2 r1b r2 z3
            have c4 := T3.out.dirtyP
            rw [hDD] at c4
            go_wp2_with fail
            refine c4.mono ?_
            rintro e v4 ⟨vc, rfl, r4, z4⟩
            obtain ⟨a4, n4, rfl, _, _⟩ := r4.len
            have T4 : Hid (Tw w0 v4 p g q gq (66 * (i + 1)) Z Z []) := T3.out.below z4
            clear c4 T3
            have c5 := T4.out.dirtyR
            rw [hDD] at c5
            go_wp2_with fail
            refine c5.mono ?_
            rintro e v5 ⟨vd, rfl, r5, z5⟩
            obtain ⟨a5, n5, rfl, _, _⟩ := r5.len
            have r4b := r4.below' z5
            have T5 : Hid (Tw w0 v5 p g q gq (66 * (i + 1)) Z Z []) := T4.out.below z5
            clear c5 T4 r4 z4 z5
            have c6 := intsEq_any DD r4b r5 hf2
            go_wp2_with fail
            refine c6.mono ?_
            rintro e v6 ⟨rfl, z6⟩
            have T6 : Hid (Tw w0 v6 p g q gq (66 * (i + 1)) Z Z []) := T5.out.below z6
            clear c6 T5 r4b r5 z6 hHH hDD
            have c7 := T6.out.readsP
            go_wp2_with fail
            refine c7.mono ?_
            rintro e v7 ⟨rfl, z7⟩
            rw [z7]
            clear z7 c7
            have c8 := T6.out.readsR
            go_wp2_with fail
            refine c8.mono ?_
            rintro e v8 ⟨rfl, z8⟩
            rw [z8]
            clear z8 c8
            have c9 := T6.out.writesP
            go_wp2_with fail
            refine c9.mono ?_
            rintro e v9 ⟨rfl, z9⟩
            rw [z9]
            clear z9 c9
            have c10 := T6.out.writesR
            go_wp2_with fail
            refine c10.mono ?_
            rintro e v10 ⟨rfl, z10⟩
            rw [z10]
            clear z10 c10
            have c11 := T6.out.opsP
            go_wp2_with fail
            refine c11.mono ?_
            rintro e v11 ⟨rfl, z11⟩
            rw [z11]
            clear z11 c11
            have c12 := T6.out.opsR
            go_wp2_with fail
            refine c12.mono ?_
            rintro e v12 ⟨rfl, z12⟩
            rw [z12]
            clear z12 c12
            have c13 := T6.out.hldP
            go_wp2_with fail
            refine c13.mono ?_
            rintro e v13 ⟨rfl, z13⟩
            rw [z13]
            clear z13 c13
            have c14 := T6.out.hldR
            go_wp2_with fail
            refine c14.mono ?_
            rintro e v14 ⟨rfl, z14⟩
            rw [z14]
            clear z14 c14
            go_wp2_with fail
            go_roundw
            case rel => exact ⟨i + 1, Z, by omega, by go_num, T6.out⟩
            case measure => simp [intOf]; omega
        · skip
          by_cases hk1 : kind = 1
          · subst hk1
            by_cases h77 : fb.toNat = 77
            · have h77b : ((fb.toNat : Int) == 77) = true := by rw [beq_iff_eq]; omega
              clear h77
              as_aux_lemma =>
                obtain ⟨P, hP⟩ : ∃ P, setS S at_ ⟨#[115, 104, 111, 114, 116]⟩ = P := ⟨_, rfl⟩
                have cB := block_any _ fb rfl (wr.alloc (.cells #[.int .i64 1, .int .i64 at_, .int .u8 (fb.toNat : Int)] 38))
                go_wp2_with fail
                refine cB.mono ?_
                rintro e w2 ⟨rfl, hb2⟩
                clear cB
                have t2a := t1.below hb2
                have k1 := step_at t2a
                have k2 := step_fill t2a
                have tD := t2a.below (below_drew w2)
                have c1 := tD.setP (by omega) at_ ⟨#[115, 104, 111, 114, 116]⟩
                rw [hP] at c1

                clear t1 t2a d0 d1 d2 hb2
                go_wp2_with fail
                go_region_held3 (fun W => W.cell? ⟨wr.heap.size, 1, none⟩ = some (.int .i64 at_)) (first | exact hB | exact k1 | go_keep)
                  (first
                    | (have _ := t3; go_at_call 13; have c2 := t3.setR ho at_ ⟨#[115, 104, 111, 114, 116]⟩; rw [hP] at c2; refine c2.mono ?_; rintro e w4 ⟨rfl, t4⟩; have hB := step_at t4)
                    | (go_at_call 12; refine c1.mono ?_; rintro e w3 ⟨rfl, t3⟩; have hB := step_at t3))
                have T : Hid (Tw w0 w4 p g q gq (66 * (i + 1)) P.2 P.2 []) := (t4.mono (by omega)).less (fun y hy => by cases hy)
                clear t3 t4 tD hB k1 k2 c1 hP
                generalize P.2 = Z at *

                have hfew := T.out.few
                obtain ⟨HH, hHH⟩ : ∃ HH, heldS Z = HH := ⟨_, rfl⟩
                obtain ⟨DD, hDD⟩ : ∃ DD, dirtyS Z = DD := ⟨_, rfl⟩
                rw [hHH, hDD] at hfew
                have hf1 : HH.length ≤ 1000000 := by omega
                have hf2 : DD.length ≤ 1000000 := by omega
                clear hfew
                have c1 := T.out.heldP
                rw [hHH] at c1
                go_wp2_with fail
                refine c1.mono ?_
                rintro e v1 ⟨va, rfl, r1, z1⟩
                obtain ⟨a1, n1, rfl, _, _⟩ := r1.len
                have T1 : Hid (Tw w0 v1 p g q gq (66 * (i + 1)) Z Z []) := T.out.below z1
                clear c1 T
                have c2 := T1.out.heldR
                rw [hHH] at c2
                go_wp2_with fail
                refine c2.mono ?_
                rintro e v2 ⟨vb, rfl, r2, z2⟩
                obtain ⟨a2, n2, rfl, _, _⟩ := r2.len
                have r1b := r1.below' z2
                have T2 : Hid (Tw w0 v2 p g q gq (66 * (i + 1)) Z Z []) := T1.out.below z2
                clear c2 T1 r1 z1 z2
                have c3 := intsEq_any HH r1b r2 hf1
                go_wp2_with fail
                refine c3.mono ?_
                rintro e v3 ⟨rfl, z3⟩
                have T3 : Hid (Tw w0 v3 p g q gq (66 * (i + 1)) Z Z []) := T2.out.below z3
                clear c3 T2 r1b r2 z3
                have c4 := T3.out.dirtyP
                rw [hDD] at c4
                go_wp2_with fail
                refine c4.mono ?_
                rintro e v4 ⟨vc, rfl, r4, z4⟩
                obtain ⟨a4, n4, rfl, _, _⟩ := r4.len
                have T4 : Hid (Tw w0 v4 p g q gq (66 * (i + 1)) Z Z []) := T3.out.below z4
                clear c4 T3
                have c5 := T4.out.dirtyR
                rw [hDD] at c5
                go_wp2_with fail
                refine c5.mono ?_
                rintro e v5 ⟨vd, rfl, r5, z5⟩
                obtain ⟨a5, n5, rfl, _, _⟩ := r5.len
                have r4b := r4.below' z5
                have T5 : Hid (Tw w0 v5 p g q gq (66 * (i + 1)) Z Z []) := T4.out.below z5
                clear c5 T4 r4 z4 z5
                have c6 := intsEq_any DD r4b r5 hf2
                go_wp2_with fail
                refine c6.mono ?_
                rintro e v6 ⟨rfl, z6⟩
                have T6 : Hid (Tw w0 v6 p g q gq (66 * (i + 1)) Z Z []) := T5.out.below z6
                clear c6 T5 r4b r5 z6 hHH hDD
                have c7 := T6.out.readsP
                go_wp2_with fail
                refine c7.mono ?_
                rintro e v7 ⟨rfl, z7⟩
                rw [z7]
                clear z7 c7
                have c8 := T6.out.readsR
                go_wp2_with fail
                refine c8.mono ?_
                rintro e v8 ⟨rfl, z8⟩
                rw [z8]
                clear z8 c8
                have c9 := T6.out.writesP
                go_wp2_with fail
                refine c9.mono ?_
                rintro e v9 ⟨rfl, z9⟩
                rw [z9]
                clear z9 c9
                have c10 := T6.out.writesR
                go_wp2_with fail
                refine c10.mono ?_
                rintro e v10 ⟨rfl, z10⟩
                rw [z10]
                clear z10 c10
                have c11 := T6.out.opsP
                go_wp2_with fail
                refine c11.mono ?_
                rintro e v11 ⟨rfl, z11⟩
                rw [z11]
                clear z11 c11
                have c12 := T6.out.opsR
                go_wp2_with fail
                refine c12.mono ?_
                rintro e v12 ⟨rfl, z12⟩
                rw [z12]
                clear z12 c12
                have c13 := T6.out.hldP
                go_wp2_with fail
                refine c13.mono ?_
                rintro e v13 ⟨rfl, z13⟩
                rw [z13]
                clear z13 c13
                have c14 := T6.out.hldR
                go_wp2_with fail
                refine c14.mono ?_
                rintro e v14 ⟨rfl, z14⟩
                rw [z14]
                clear z14 c14
                go_wp2_with fail
                go_roundw
                case rel => exact ⟨i + 1, Z, by omega, by go_num, T6.out⟩
                case measure => simp [intOf]; omega
            · have h77b : ((fb.toNat : Int) == 77) = false := by rw [beq_eq_false_iff_ne]; omega
              obtain ⟨SS, hSS⟩ : ∃ SS, blk fb = SS := ⟨_, rfl⟩
              clear h77
              as_aux_lemma =>
                obtain ⟨P, hP⟩ : ∃ P, setS S at_ SS = P := ⟨_, rfl⟩
                have cB := block_any _ fb rfl (wr.alloc (.cells #[.int .i64 1, .int .i64 at_, .int .u8 (fb.toNat : Int)] 38))
                go_wp2_with fail
                refine cB.mono ?_
                rintro e w2 ⟨rfl, hb2⟩
                clear cB
                have t2a := t1.below hb2
                have k1 := step_at t2a
                have k2 := step_fill t2a
                have tD := t2a.below (below_drew w2)
                have c1 := tD.setP (by omega) at_ SS
                rw [hP] at c1

                clear t1 t2a d0 d1 d2 hb2
                go_wp2_with fail
                go_region_held3 (fun W => W.cell? ⟨wr.heap.size, 1, none⟩ = some (.int .i64 at_)) (first | exact hB | exact k1 | go_keep)
                  (first
                    | (have _ := t3; go_at_call 13; have c2 := t3.setR ho at_ SS; rw [hP] at c2; refine c2.mono ?_; rintro e w4 ⟨rfl, t4⟩; have hB := step_at t4)
                    | (go_at_call 12; refine c1.mono ?_; rintro e w3 ⟨rfl, t3⟩; have hB := step_at t3))
                have T : Hid (Tw w0 w4 p g q gq (66 * (i + 1)) P.2 P.2 []) := (t4.mono (by omega)).less (fun y hy => by cases hy)
                clear t3 t4 tD hB k1 k2 c1 hP
                generalize P.2 = Z at *

                have hfew := T.out.few
                obtain ⟨HH, hHH⟩ : ∃ HH, heldS Z = HH := ⟨_, rfl⟩
                obtain ⟨DD, hDD⟩ : ∃ DD, dirtyS Z = DD := ⟨_, rfl⟩
                rw [hHH, hDD] at hfew
                have hf1 : HH.length ≤ 1000000 := by omega
                have hf2 : DD.length ≤ 1000000 := by omega
                clear hfew
                have c1 := T.out.heldP
                rw [hHH] at c1
                go_wp2_with fail
                refine c1.mono ?_
                rintro e v1 ⟨va, rfl, r1, z1⟩
                obtain ⟨a1, n1, rfl, _, _⟩ := r1.len
                have T1 : Hid (Tw w0 v1 p g q gq (66 * (i + 1)) Z Z []) := T.out.below z1
                clear c1 T
                have c2 := T1.out.heldR
                rw [hHH] at c2
                go_wp2_with fail
                refine c2.mono ?_
                rintro e v2 ⟨vb, rfl, r2, z2⟩
                obtain ⟨a2, n2, rfl, _, _⟩ := r2.len
                have r1b := r1.below' z2
                have T2 : Hid (Tw w0 v2 p g q gq (66 * (i + 1)) Z Z []) := T1.out.below z2
                clear c2 T1 r1 z1 z2
                have c3 := intsEq_any HH r1b r2 hf1
                go_wp2_with fail
                refine c3.mono ?_
                rintro e v3 ⟨rfl, z3⟩
                have T3 : Hid (Tw w0 v3 p g q gq (66 * (i + 1)) Z Z []) := T2.out.below z3
                clear c3 T2 r1b r2 z3
                have c4 := T3.out.dirtyP
                rw [hDD] at c4
                go_wp2_with fail
                refine c4.mono ?_
                rintro e v4 ⟨vc, rfl, r4, z4⟩
                obtain ⟨a4, n4, rfl, _, _⟩ := r4.len
                have T4 : Hid (Tw w0 v4 p g q gq (66 * (i + 1)) Z Z []) := T3.out.below z4
                clear c4 T3
                have c5 := T4.out.dirtyR
                rw [hDD] at c5
                go_wp2_with fail
                refine c5.mono ?_
                rintro e v5 ⟨vd, rfl, r5, z5⟩
                obtain ⟨a5, n5, rfl, _, _⟩ := r5.len
                have r4b := r4.below' z5
                have T5 : Hid (Tw w0 v5 p g q gq (66 * (i + 1)) Z Z []) := T4.out.below z5
                clear c5 T4 r4 z4 z5
                have c6 := intsEq_any DD r4b r5 hf2
                go_wp2_with fail
                refine c6.mono ?_
                rintro e v6 ⟨rfl, z6⟩
                have T6 : Hid (Tw w0 v6 p g q gq (66 * (i + 1)) Z Z []) := T5.out.below z6
                clear c6 T5 r4b r5 z6 hHH hDD
                have c7 := T6.out.readsP
                go_wp2_with fail
                refine c7.mono ?_
                rintro e v7 ⟨rfl, z7⟩
                rw [z7]
                clear z7 c7
                have c8 := T6.out.readsR
                go_wp2_with fail
                refine c8.mono ?_
                rintro e v8 ⟨rfl, z8⟩
                rw [z8]
                clear z8 c8
                have c9 := T6.out.writesP
                go_wp2_with fail
                refine c9.mono ?_
                rintro e v9 ⟨rfl, z9⟩
                rw [z9]
                clear z9 c9
                have c10 := T6.out.writesR
                go_wp2_with fail
                refine c10.mono ?_
                rintro e v10 ⟨rfl, z10⟩
                rw [z10]
                clear z10 c10
                have c11 := T6.out.opsP
                go_wp2_with fail
                refine c11.mono ?_
                rintro e v11 ⟨rfl, z11⟩
                rw [z11]
                clear z11 c11
                have c12 := T6.out.opsR
                go_wp2_with fail
                refine c12.mono ?_
                rintro e v12 ⟨rfl, z12⟩
                rw [z12]
                clear z12 c12
                have c13 := T6.out.hldP
                go_wp2_with fail
                refine c13.mono ?_
                rintro e v13 ⟨rfl, z13⟩
                rw [z13]
                clear z13 c13
                have c14 := T6.out.hldR
                go_wp2_with fail
                refine c14.mono ?_
                rintro e v14 ⟨rfl, z14⟩
                rw [z14]
                clear z14 c14
                go_wp2_with fail
                go_roundw
                case rel => exact ⟨i + 1, Z, by omega, by go_num, T6.out⟩
                case measure => simp [intOf]; omega
          · skip
            by_cases hk2 : kind = 2
            · subst hk2

              as_aux_lemma =>
                obtain ⟨P, hP⟩ : ∃ P, unpinS S at_ = P := ⟨_, rfl⟩
                go_wp2_with fail
                have k1 := step_at t1
                generalize wr.alloc (.cells #[.int .i64 2, .int .i64 at_, .int .u8 (fb.toNat : Int)] 38) = W1 at t1 k1 ⊢
                have tD := t1.below (below_drew W1)
                have c1 := tD.unpinP (by omega) at_
                rw [hP] at c1
                clear d0 d1 d2 t1
                go_region_held3 (fun W => W.cell? ⟨wr.heap.size, 1, none⟩ = some (.int .i64 at_)) (first | exact hB | exact k1 | go_keep)
                  (first
                    | (have _ := t2; go_at_call 15; have c2 := t2.unpinR ho (by omega) at_; rw [hP] at c2; refine c2.mono ?_; rintro e w3 ⟨rfl, t3⟩; have hB := step_at t3)
                    | (go_at_call 14; refine c1.mono ?_; rintro e w2 ⟨rfl, t2⟩; have hB := step_at t2))
                have T : Hid (Tw w0 w3 p g q gq (66 * (i + 1)) P.2 P.2 []) := (t3.mono (by omega)).less (fun y hy => by cases hy)
                clear t2 t3 tD hB k1 c1 hP
                generalize P.2 = Z at *

                have hfew := T.out.few
                obtain ⟨HH, hHH⟩ : ∃ HH, heldS Z = HH := ⟨_, rfl⟩
                obtain ⟨DD, hDD⟩ : ∃ DD, dirtyS Z = DD := ⟨_, rfl⟩
                rw [hHH, hDD] at hfew
                have hf1 : HH.length ≤ 1000000 := by omega
                have hf2 : DD.length ≤ 1000000 := by omega
                clear hfew
                have c1 := T.out.heldP
                rw [hHH] at c1
                go_wp2_with fail
                refine c1.mono ?_
                rintro e v1 ⟨va, rfl, r1, z1⟩
                obtain ⟨a1, n1, rfl, _, _⟩ := r1.len
                have T1 : Hid (Tw w0 v1 p g q gq (66 * (i + 1)) Z Z []) := T.out.below z1
                clear c1 T
                have c2 := T1.out.heldR
                rw [hHH] at c2
                go_wp2_with fail
                refine c2.mono ?_
                rintro e v2 ⟨vb, rfl, r2, z2⟩
                obtain ⟨a2, n2, rfl, _, _⟩ := r2.len
                have r1b := r1.below' z2
                have T2 : Hid (Tw w0 v2 p g q gq (66 * (i + 1)) Z Z []) := T1.out.below z2
                clear c2 T1 r1 z1 z2
                have c3 := intsEq_any HH r1b r2 hf1
                go_wp2_with fail
                refine c3.mono ?_
                rintro e v3 ⟨rfl, z3⟩
                have T3 : Hid (Tw w0 v3 p g q gq (66 * (i + 1)) Z Z []) := T2.out.below z3
                clear c3 T2 r1b r2 z3
                have c4 := T3.out.dirtyP
                rw [hDD] at c4
                go_wp2_with fail
                refine c4.mono ?_
                rintro e v4 ⟨vc, rfl, r4, z4⟩
                obtain ⟨a4, n4, rfl, _, _⟩ := r4.len
                have T4 : Hid (Tw w0 v4 p g q gq (66 * (i + 1)) Z Z []) := T3.out.below z4
                clear c4 T3
                have c5 := T4.out.dirtyR
                rw [hDD] at c5
                go_wp2_with fail
                refine c5.mono ?_
                rintro e v5 ⟨vd, rfl, r5, z5⟩
                obtain ⟨a5, n5, rfl, _, _⟩ := r5.len
                have r4b := r4.below' z5
                have T5 : Hid (Tw w0 v5 p g q gq (66 * (i + 1)) Z Z []) := T4.out.below z5
                clear c5 T4 r4 z4 z5
                have c6 := intsEq_any DD r4b r5 hf2
                go_wp2_with fail
                refine c6.mono ?_
                rintro e v6 ⟨rfl, z6⟩
                have T6 : Hid (Tw w0 v6 p g q gq (66 * (i + 1)) Z Z []) := T5.out.below z6
                clear c6 T5 r4b r5 z6 hHH hDD
                have c7 := T6.out.readsP
                go_wp2_with fail
                refine c7.mono ?_
                rintro e v7 ⟨rfl, z7⟩
                rw [z7]
                clear z7 c7
                have c8 := T6.out.readsR
                go_wp2_with fail
                refine c8.mono ?_
                rintro e v8 ⟨rfl, z8⟩
                rw [z8]
                clear z8 c8
                have c9 := T6.out.writesP
                go_wp2_with fail
                refine c9.mono ?_
                rintro e v9 ⟨rfl, z9⟩
                rw [z9]
                clear z9 c9
                have c10 := T6.out.writesR
                go_wp2_with fail
                refine c10.mono ?_
                rintro e v10 ⟨rfl, z10⟩
                rw [z10]
                clear z10 c10
                have c11 := T6.out.opsP
                go_wp2_with fail
                refine c11.mono ?_
                rintro e v11 ⟨rfl, z11⟩
                rw [z11]
                clear z11 c11
                have c12 := T6.out.opsR
                go_wp2_with fail
                refine c12.mono ?_
                rintro e v12 ⟨rfl, z12⟩
                rw [z12]
                clear z12 c12
                have c13 := T6.out.hldP
                go_wp2_with fail
                refine c13.mono ?_
                rintro e v13 ⟨rfl, z13⟩
                rw [z13]
                clear z13 c13
                have c14 := T6.out.hldR
                go_wp2_with fail
                refine c14.mono ?_
                rintro e v14 ⟨rfl, z14⟩
                rw [z14]
                clear z14 c14
                go_wp2_with fail
                go_roundw
                case rel => exact ⟨i + 1, Z, by omega, by go_num, T6.out⟩
                case measure => simp [intOf]; omega
            · skip
              by_cases hk3 : kind = 3
              · subst hk3

                as_aux_lemma =>
                  have c1 := t1.flushP (by omega)
                  obtain ⟨P, hP⟩ : ∃ P, flushS S = P := ⟨_, rfl⟩
                  rw [hP] at c1
                  go_wp2_with fail
                  refine c1.mono ?_
                  rintro e w2 ⟨rfl, t2⟩
                  have c2 := t2.flushR ho (by omega)
                  rw [hP] at c2
                  clear c1 t1 d0 d1 d2
                  go_wp2_with fail
                  refine c2.mono ?_
                  rintro e w3 ⟨rfl, t3⟩
                  have T : Hid (Tw w0 w3 p g q gq (66 * (i + 1)) P.2 P.2 []) := (t3.mono (by omega)).less (fun y hy => by cases hy)
                  clear c2 t2 t3 hP
                  generalize P.2 = Z at *

                  have hfew := T.out.few
                  obtain ⟨HH, hHH⟩ : ∃ HH, heldS Z = HH := ⟨_, rfl⟩
                  obtain ⟨DD, hDD⟩ : ∃ DD, dirtyS Z = DD := ⟨_, rfl⟩
                  rw [hHH, hDD] at hfew
                  have hf1 : HH.length ≤ 1000000 := by omega
                  have hf2 : DD.length ≤ 1000000 := by omega
                  clear hfew
                  have c1 := T.out.heldP
                  rw [hHH] at c1
                  go_wp2_with fail
                  refine c1.mono ?_
                  rintro e v1 ⟨va, rfl, r1, z1⟩
                  obtain ⟨a1, n1, rfl, _, _⟩ := r1.len
                  have T1 : Hid (Tw w0 v1 p g q gq (66 * (i + 1)) Z Z []) := T.out.below z1
                  clear c1 T
                  have c2 := T1.out.heldR
                  rw [hHH] at c2
                  go_wp2_with fail
                  refine c2.mono ?_
                  rintro e v2 ⟨vb, rfl, r2, z2⟩
                  obtain ⟨a2, n2, rfl, _, _⟩ := r2.len
                  have r1b := r1.below' z2
                  have T2 : Hid (Tw w0 v2 p g q gq (66 * (i + 1)) Z Z []) := T1.out.below z2
                  clear c2 T1 r1 z1 z2
                  have c3 := intsEq_any HH r1b r2 hf1
                  go_wp2_with fail
                  refine c3.mono ?_
                  rintro e v3 ⟨rfl, z3⟩
                  have T3 : Hid (Tw w0 v3 p g q gq (66 * (i + 1)) Z Z []) := T2.out.below z3
                  clear c3 T2 r1b r2 z3
                  have c4 := T3.out.dirtyP
                  rw [hDD] at c4
                  go_wp2_with fail
                  refine c4.mono ?_
                  rintro e v4 ⟨vc, rfl, r4, z4⟩
                  obtain ⟨a4, n4, rfl, _, _⟩ := r4.len
                  have T4 : Hid (Tw w0 v4 p g q gq (66 * (i + 1)) Z Z []) := T3.out.below z4
                  clear c4 T3
                  have c5 := T4.out.dirtyR
                  rw [hDD] at c5
                  go_wp2_with fail
                  refine c5.mono ?_
                  rintro e v5 ⟨vd, rfl, r5, z5⟩
                  obtain ⟨a5, n5, rfl, _, _⟩ := r5.len
                  have r4b := r4.below' z5
                  have T5 : Hid (Tw w0 v5 p g q gq (66 * (i + 1)) Z Z []) := T4.out.below z5
                  clear c5 T4 r4 z4 z5
                  have c6 := intsEq_any DD r4b r5 hf2
                  go_wp2_with fail
                  refine c6.mono ?_
                  rintro e v6 ⟨rfl, z6⟩
                  have T6 : Hid (Tw w0 v6 p g q gq (66 * (i + 1)) Z Z []) := T5.out.below z6
                  clear c6 T5 r4b r5 z6 hHH hDD
                  have c7 := T6.out.readsP
                  go_wp2_with fail
                  refine c7.mono ?_
                  rintro e v7 ⟨rfl, z7⟩
                  rw [z7]
                  clear z7 c7
                  have c8 := T6.out.readsR
                  go_wp2_with fail
                  refine c8.mono ?_
                  rintro e v8 ⟨rfl, z8⟩
                  rw [z8]
                  clear z8 c8
                  have c9 := T6.out.writesP
                  go_wp2_with fail
                  refine c9.mono ?_
                  rintro e v9 ⟨rfl, z9⟩
                  rw [z9]
                  clear z9 c9
                  have c10 := T6.out.writesR
                  go_wp2_with fail
                  refine c10.mono ?_
                  rintro e v10 ⟨rfl, z10⟩
                  rw [z10]
                  clear z10 c10
                  have c11 := T6.out.opsP
                  go_wp2_with fail
                  refine c11.mono ?_
                  rintro e v11 ⟨rfl, z11⟩
                  rw [z11]
                  clear z11 c11
                  have c12 := T6.out.opsR
                  go_wp2_with fail
                  refine c12.mono ?_
                  rintro e v12 ⟨rfl, z12⟩
                  rw [z12]
                  clear z12 c12
                  have c13 := T6.out.hldP
                  go_wp2_with fail
                  refine c13.mono ?_
                  rintro e v13 ⟨rfl, z13⟩
                  rw [z13]
                  clear z13 c13
                  have c14 := T6.out.hldR
                  go_wp2_with fail
                  refine c14.mono ?_
                  rintro e v14 ⟨rfl, z14⟩
                  rw [z14]
                  clear z14 c14
                  go_wp2_with fail
                  go_roundw
                  case rel => exact ⟨i + 1, Z, by omega, by go_num, T6.out⟩
                  case measure => simp [intOf]; omega
              · skip
                by_cases hk4 : kind = 4
                · subst hk4

                  as_aux_lemma =>
                    obtain ⟨P, hP⟩ : ∃ P, evictS S at_ = P := ⟨_, rfl⟩
                    go_wp2_with fail
                    have k1 := step_at t1
                    generalize wr.alloc (.cells #[.int .i64 4, .int .i64 at_, .int .u8 (fb.toNat : Int)] 38) = W1 at t1 k1 ⊢
                    have tD := t1.below (below_drew W1)
                    have c1 := tD.evictP (by omega) at_ aB.1 aB.2
                    rw [hP] at c1
                    clear d0 d1 d2 t1
                    go_region_held3 (fun W => W.cell? ⟨wr.heap.size, 1, none⟩ = some (.int .i64 at_)) (first | exact hB | exact k1 | go_keep)
                      (first
                        | (have _ := t2; go_at_call 19; have c2 := t2.evictR ho (by omega) at_ aB.1 aB.2; rw [hP] at c2; refine c2.mono ?_; rintro e w3 ⟨rfl, t3⟩; have hB := step_at t3)
                        | (go_at_call 18; refine c1.mono ?_; rintro e w2 ⟨rfl, t2⟩; have hB := step_at t2))
                    have T : Hid (Tw w0 w3 p g q gq (66 * (i + 1)) P.2 P.2 []) := (t3.mono (by omega)).less (fun y hy => by cases hy)
                    clear t2 t3 tD hB k1 c1 hP
                    generalize P.2 = Z at *

                    have hfew := T.out.few
                    obtain ⟨HH, hHH⟩ : ∃ HH, heldS Z = HH := ⟨_, rfl⟩
                    obtain ⟨DD, hDD⟩ : ∃ DD, dirtyS Z = DD := ⟨_, rfl⟩
                    rw [hHH, hDD] at hfew
                    have hf1 : HH.length ≤ 1000000 := by omega
                    have hf2 : DD.length ≤ 1000000 := by omega
                    clear hfew
                    have c1 := T.out.heldP
                    rw [hHH] at c1
                    go_wp2_with fail
                    refine c1.mono ?_
                    rintro e v1 ⟨va, rfl, r1, z1⟩
                    obtain ⟨a1, n1, rfl, _, _⟩ := r1.len
                    have T1 : Hid (Tw w0 v1 p g q gq (66 * (i + 1)) Z Z []) := T.out.below z1
                    clear c1 T
                    have c2 := T1.out.heldR
                    rw [hHH] at c2
                    go_wp2_with fail
                    refine c2.mono ?_
                    rintro e v2 ⟨vb, rfl, r2, z2⟩
                    obtain ⟨a2, n2, rfl, _, _⟩ := r2.len
                    have r1b := r1.below' z2
                    have T2 : Hid (Tw w0 v2 p g q gq (66 * (i + 1)) Z Z []) := T1.out.below z2
                    clear c2 T1 r1 z1 z2
                    have c3 := intsEq_any HH r1b r2 hf1
                    go_wp2_with fail
                    refine c3.mono ?_
                    rintro e v3 ⟨rfl, z3⟩
                    have T3 : Hid (Tw w0 v3 p g q gq (66 * (i + 1)) Z Z []) := T2.out.below z3
                    clear c3 T2 r1b r2 z3
                    have c4 := T3.out.dirtyP
                    rw [hDD] at c4
                    go_wp2_with fail
                    refine c4.mono ?_
                    rintro e v4 ⟨vc, rfl, r4, z4⟩
                    obtain ⟨a4, n4, rfl, _, _⟩ := r4.len
                    have T4 : Hid (Tw w0 v4 p g q gq (66 * (i + 1)) Z Z []) := T3.out.below z4
                    clear c4 T3
                    have c5 := T4.out.dirtyR
                    rw [hDD] at c5
                    go_wp2_with fail
                    refine c5.mono ?_
                    rintro e v5 ⟨vd, rfl, r5, z5⟩
                    obtain ⟨a5, n5, rfl, _, _⟩ := r5.len
                    have r4b := r4.below' z5
                    have T5 : Hid (Tw w0 v5 p g q gq (66 * (i + 1)) Z Z []) := T4.out.below z5
                    clear c5 T4 r4 z4 z5
                    have c6 := intsEq_any DD r4b r5 hf2
                    go_wp2_with fail
                    refine c6.mono ?_
                    rintro e v6 ⟨rfl, z6⟩
                    have T6 : Hid (Tw w0 v6 p g q gq (66 * (i + 1)) Z Z []) := T5.out.below z6
                    clear c6 T5 r4b r5 z6 hHH hDD
                    have c7 := T6.out.readsP
                    go_wp2_with fail
                    refine c7.mono ?_
                    rintro e v7 ⟨rfl, z7⟩
                    rw [z7]
                    clear z7 c7
                    have c8 := T6.out.readsR
                    go_wp2_with fail
                    refine c8.mono ?_
                    rintro e v8 ⟨rfl, z8⟩
                    rw [z8]
                    clear z8 c8
                    have c9 := T6.out.writesP
                    go_wp2_with fail
                    refine c9.mono ?_
                    rintro e v9 ⟨rfl, z9⟩
                    rw [z9]
                    clear z9 c9
                    have c10 := T6.out.writesR
                    go_wp2_with fail
                    refine c10.mono ?_
                    rintro e v10 ⟨rfl, z10⟩
                    rw [z10]
                    clear z10 c10
                    have c11 := T6.out.opsP
                    go_wp2_with fail
                    refine c11.mono ?_
                    rintro e v11 ⟨rfl, z11⟩
                    rw [z11]
                    clear z11 c11
                    have c12 := T6.out.opsR
                    go_wp2_with fail
                    refine c12.mono ?_
                    rintro e v12 ⟨rfl, z12⟩
                    rw [z12]
                    clear z12 c12
                    have c13 := T6.out.hldP
                    go_wp2_with fail
                    refine c13.mono ?_
                    rintro e v13 ⟨rfl, z13⟩
                    rw [z13]
                    clear z13 c13
                    have c14 := T6.out.hldR
                    go_wp2_with fail
                    refine c14.mono ?_
                    rintro e v14 ⟨rfl, z14⟩
                    rw [z14]
                    clear z14 c14
                    go_wp2_with fail
                    go_roundw
                    case rel => exact ⟨i + 1, Z, by omega, by go_num, T6.out⟩
                    case measure => simp [intOf]; omega
                · skip
                  by_cases hk5 : kind = 5
                  · subst hk5

                    as_aux_lemma =>
                      have c1 := t1.armP at_ aB.2
                      obtain ⟨Z, hZ⟩ : ∃ Z, ({ S with D := { S.D with left := max at_ (-1) } } : St) = Z := ⟨_, rfl⟩
                      rw [hZ] at c1
                      go_wp2_with fail
                      refine c1.mono ?_
                      rintro e w2 ⟨rfl, t2⟩
                      have k1 := step_at t2
                      have c2 := t2.armR at_
                      rw [hZ] at c2
                      clear c1 t1 d0 d1 d2
                      go_wp2_with fail
                      refine c2.mono ?_
                      rintro e w3 ⟨rfl, t3⟩
                      have T : Hid (Tw w0 w3 p g q gq (66 * (i + 1)) Z Z []) := (t3.mono (by omega)).less (fun y hy => by cases hy)
                      clear c2 t2 t3 k1 hZ

                      have hfew := T.out.few
                      obtain ⟨HH, hHH⟩ : ∃ HH, heldS Z = HH := ⟨_, rfl⟩
                      obtain ⟨DD, hDD⟩ : ∃ DD, dirtyS Z = DD := ⟨_, rfl⟩
                      rw [hHH, hDD] at hfew
                      have hf1 : HH.length ≤ 1000000 := by omega
                      have hf2 : DD.length ≤ 1000000 := by omega
                      clear hfew
                      have c1 := T.out.heldP
                      rw [hHH] at c1
                      go_wp2_with fail
                      refine c1.mono ?_
                      rintro e v1 ⟨va, rfl, r1, z1⟩
                      obtain ⟨a1, n1, rfl, _, _⟩ := r1.len
                      have T1 : Hid (Tw w0 v1 p g q gq (66 * (i + 1)) Z Z []) := T.out.below z1
                      clear c1 T
                      have c2 := T1.out.heldR
                      rw [hHH] at c2
                      go_wp2_with fail
                      refine c2.mono ?_
                      rintro e v2 ⟨vb, rfl, r2, z2⟩
                      obtain ⟨a2, n2, rfl, _, _⟩ := r2.len
                      have r1b := r1.below' z2
                      have T2 : Hid (Tw w0 v2 p g q gq (66 * (i + 1)) Z Z []) := T1.out.below z2
                      clear c2 T1 r1 z1 z2
                      have c3 := intsEq_any HH r1b r2 hf1
                      go_wp2_with fail
                      refine c3.mono ?_
                      rintro e v3 ⟨rfl, z3⟩
                      have T3 : Hid (Tw w0 v3 p g q gq (66 * (i + 1)) Z Z []) := T2.out.below z3
                      clear c3 T2 r1b r2 z3
                      have c4 := T3.out.dirtyP
                      rw [hDD] at c4
                      go_wp2_with fail
                      refine c4.mono ?_
                      rintro e v4 ⟨vc, rfl, r4, z4⟩
                      obtain ⟨a4, n4, rfl, _, _⟩ := r4.len
                      have T4 : Hid (Tw w0 v4 p g q gq (66 * (i + 1)) Z Z []) := T3.out.below z4
                      clear c4 T3
                      have c5 := T4.out.dirtyR
                      rw [hDD] at c5
                      go_wp2_with fail
                      refine c5.mono ?_
                      rintro e v5 ⟨vd, rfl, r5, z5⟩
                      obtain ⟨a5, n5, rfl, _, _⟩ := r5.len
                      have r4b := r4.below' z5
                      have T5 : Hid (Tw w0 v5 p g q gq (66 * (i + 1)) Z Z []) := T4.out.below z5
                      clear c5 T4 r4 z4 z5
                      have c6 := intsEq_any DD r4b r5 hf2
                      go_wp2_with fail
                      refine c6.mono ?_
                      rintro e v6 ⟨rfl, z6⟩
                      have T6 : Hid (Tw w0 v6 p g q gq (66 * (i + 1)) Z Z []) := T5.out.below z6
                      clear c6 T5 r4b r5 z6 hHH hDD
                      have c7 := T6.out.readsP
                      go_wp2_with fail
                      refine c7.mono ?_
                      rintro e v7 ⟨rfl, z7⟩
                      rw [z7]
                      clear z7 c7
                      have c8 := T6.out.readsR
                      go_wp2_with fail
                      refine c8.mono ?_
                      rintro e v8 ⟨rfl, z8⟩
                      rw [z8]
                      clear z8 c8
                      have c9 := T6.out.writesP
                      go_wp2_with fail
                      refine c9.mono ?_
                      rintro e v9 ⟨rfl, z9⟩
                      rw [z9]
                      clear z9 c9
                      have c10 := T6.out.writesR
                      go_wp2_with fail
                      refine c10.mono ?_
                      rintro e v10 ⟨rfl, z10⟩
                      rw [z10]
                      clear z10 c10
                      have c11 := T6.out.opsP
                      go_wp2_with fail
                      refine c11.mono ?_
                      rintro e v11 ⟨rfl, z11⟩
                      rw [z11]
                      clear z11 c11
                      have c12 := T6.out.opsR
                      go_wp2_with fail
                      refine c12.mono ?_
                      rintro e v12 ⟨rfl, z12⟩
                      rw [z12]
                      clear z12 c12
                      have c13 := T6.out.hldP
                      go_wp2_with fail
                      refine c13.mono ?_
                      rintro e v13 ⟨rfl, z13⟩
                      rw [z13]
                      clear z13 c13
                      have c14 := T6.out.hldR
                      go_wp2_with fail
                      refine c14.mono ?_
                      rintro e v14 ⟨rfl, z14⟩
                      rw [z14]
                      clear z14 c14
                      go_wp2_with fail
                      go_roundw
                      case rel => exact ⟨i + 1, Z, by omega, by go_num, T6.out⟩
                      case measure => simp [intOf]; omega
                  · skip
                    by_cases hk6 : kind = 6
                    · subst hk6

                      as_aux_lemma =>
                        have c1 := t1.refuseP at_ aB.2
                        obtain ⟨Z, hZ⟩ : ∃ Z, ({ S with D := { S.D with next := max at_ 0 } } : St) = Z := ⟨_, rfl⟩
                        rw [hZ] at c1
                        go_wp2_with fail
                        refine c1.mono ?_
                        rintro e w2 ⟨rfl, t2⟩
                        have k1 := step_at t2
                        have c2 := t2.refuseR at_
                        rw [hZ] at c2
                        clear c1 t1 d0 d1 d2
                        go_wp2_with fail
                        refine c2.mono ?_
                        rintro e w3 ⟨rfl, t3⟩
                        have T : Hid (Tw w0 w3 p g q gq (66 * (i + 1)) Z Z []) := (t3.mono (by omega)).less (fun y hy => by cases hy)
                        clear c2 t2 t3 k1 hZ

                        have hfew := T.out.few
                        obtain ⟨HH, hHH⟩ : ∃ HH, heldS Z = HH := ⟨_, rfl⟩
                        obtain ⟨DD, hDD⟩ : ∃ DD, dirtyS Z = DD := ⟨_, rfl⟩
                        rw [hHH, hDD] at hfew
                        have hf1 : HH.length ≤ 1000000 := by omega
                        have hf2 : DD.length ≤ 1000000 := by omega
                        clear hfew
                        have c1 := T.out.heldP
                        rw [hHH] at c1
                        go_wp2_with fail
                        refine c1.mono ?_
                        rintro e v1 ⟨va, rfl, r1, z1⟩
                        obtain ⟨a1, n1, rfl, _, _⟩ := r1.len
                        have T1 : Hid (Tw w0 v1 p g q gq (66 * (i + 1)) Z Z []) := T.out.below z1
                        clear c1 T
                        have c2 := T1.out.heldR
                        rw [hHH] at c2
                        go_wp2_with fail
                        refine c2.mono ?_
                        rintro e v2 ⟨vb, rfl, r2, z2⟩
                        obtain ⟨a2, n2, rfl, _, _⟩ := r2.len
                        have r1b := r1.below' z2
                        have T2 : Hid (Tw w0 v2 p g q gq (66 * (i + 1)) Z Z []) := T1.out.below z2
                        clear c2 T1 r1 z1 z2
                        have c3 := intsEq_any HH r1b r2 hf1
                        go_wp2_with fail
                        refine c3.mono ?_
                        rintro e v3 ⟨rfl, z3⟩
                        have T3 : Hid (Tw w0 v3 p g q gq (66 * (i + 1)) Z Z []) := T2.out.below z3
                        clear c3 T2 r1b r2 z3
                        have c4 := T3.out.dirtyP
                        rw [hDD] at c4
                        go_wp2_with fail
                        refine c4.mono ?_
                        rintro e v4 ⟨vc, rfl, r4, z4⟩
                        obtain ⟨a4, n4, rfl, _, _⟩ := r4.len
                        have T4 : Hid (Tw w0 v4 p g q gq (66 * (i + 1)) Z Z []) := T3.out.below z4
                        clear c4 T3
                        have c5 := T4.out.dirtyR
                        rw [hDD] at c5
                        go_wp2_with fail
                        refine c5.mono ?_
                        rintro e v5 ⟨vd, rfl, r5, z5⟩
                        obtain ⟨a5, n5, rfl, _, _⟩ := r5.len
                        have r4b := r4.below' z5
                        have T5 : Hid (Tw w0 v5 p g q gq (66 * (i + 1)) Z Z []) := T4.out.below z5
                        clear c5 T4 r4 z4 z5
                        have c6 := intsEq_any DD r4b r5 hf2
                        go_wp2_with fail
                        refine c6.mono ?_
                        rintro e v6 ⟨rfl, z6⟩
                        have T6 : Hid (Tw w0 v6 p g q gq (66 * (i + 1)) Z Z []) := T5.out.below z6
                        clear c6 T5 r4b r5 z6 hHH hDD
                        have c7 := T6.out.readsP
                        go_wp2_with fail
                        refine c7.mono ?_
                        rintro e v7 ⟨rfl, z7⟩
                        rw [z7]
                        clear z7 c7
                        have c8 := T6.out.readsR
                        go_wp2_with fail
                        refine c8.mono ?_
                        rintro e v8 ⟨rfl, z8⟩
                        rw [z8]
                        clear z8 c8
                        have c9 := T6.out.writesP
                        go_wp2_with fail
                        refine c9.mono ?_
                        rintro e v9 ⟨rfl, z9⟩
                        rw [z9]
                        clear z9 c9
                        have c10 := T6.out.writesR
                        go_wp2_with fail
                        refine c10.mono ?_
                        rintro e v10 ⟨rfl, z10⟩
                        rw [z10]
                        clear z10 c10
                        have c11 := T6.out.opsP
                        go_wp2_with fail
                        refine c11.mono ?_
                        rintro e v11 ⟨rfl, z11⟩
                        rw [z11]
                        clear z11 c11
                        have c12 := T6.out.opsR
                        go_wp2_with fail
                        refine c12.mono ?_
                        rintro e v12 ⟨rfl, z12⟩
                        rw [z12]
                        clear z12 c12
                        have c13 := T6.out.hldP
                        go_wp2_with fail
                        refine c13.mono ?_
                        rintro e v13 ⟨rfl, z13⟩
                        rw [z13]
                        clear z13 c13
                        have c14 := T6.out.hldR
                        go_wp2_with fail
                        refine c14.mono ?_
                        rintro e v14 ⟨rfl, z14⟩
                        rw [z14]
                        clear z14 c14
                        go_wp2_with fail
                        go_roundw
                        case rel => exact ⟨i + 1, Z, by omega, by go_num, T6.out⟩
                        case measure => simp [intOf]; omega
                    · skip
                      by_cases hk7 : kind = 7
                      · subst hk7

                        as_aux_lemma =>
                          have c1 := t1.crashP (by omega)
                          obtain ⟨Z, hZ⟩ : ∃ Z, ({ S with D := S.D.crashed [] } : St) = Z := ⟨_, rfl⟩
                          rw [hZ] at c1
                          go_wp2_with fail
                          refine c1.mono ?_
                          rintro e w2 ⟨rfl, t2⟩
                          have k1 := step_at t2
                          have c2 := t2.crashR ho (by omega)
                          rw [hZ] at c2
                          clear c1 t1 d0 d1 d2
                          go_wp2_with fail
                          refine c2.mono ?_
                          rintro e w3 ⟨rfl, t3⟩
                          have T : Hid (Tw w0 w3 p g q gq (66 * (i + 1)) Z Z []) := (t3.mono (by omega)).less (fun y hy => by cases hy)
                          clear c2 t2 t3 k1 hZ

                          have hfew := T.out.few
                          obtain ⟨HH, hHH⟩ : ∃ HH, heldS Z = HH := ⟨_, rfl⟩
                          obtain ⟨DD, hDD⟩ : ∃ DD, dirtyS Z = DD := ⟨_, rfl⟩
                          rw [hHH, hDD] at hfew
                          have hf1 : HH.length ≤ 1000000 := by omega
                          have hf2 : DD.length ≤ 1000000 := by omega
                          clear hfew
                          have c1 := T.out.heldP
                          rw [hHH] at c1
                          go_wp2_with fail
                          refine c1.mono ?_
                          rintro e v1 ⟨va, rfl, r1, z1⟩
                          obtain ⟨a1, n1, rfl, _, _⟩ := r1.len
                          have T1 : Hid (Tw w0 v1 p g q gq (66 * (i + 1)) Z Z []) := T.out.below z1
                          clear c1 T
                          have c2 := T1.out.heldR
                          rw [hHH] at c2
                          go_wp2_with fail
                          refine c2.mono ?_
                          rintro e v2 ⟨vb, rfl, r2, z2⟩
                          obtain ⟨a2, n2, rfl, _, _⟩ := r2.len
                          have r1b := r1.below' z2
                          have T2 : Hid (Tw w0 v2 p g q gq (66 * (i + 1)) Z Z []) := T1.out.below z2
                          clear c2 T1 r1 z1 z2
                          have c3 := intsEq_any HH r1b r2 hf1
                          go_wp2_with fail
                          refine c3.mono ?_
                          rintro e v3 ⟨rfl, z3⟩
                          have T3 : Hid (Tw w0 v3 p g q gq (66 * (i + 1)) Z Z []) := T2.out.below z3
                          clear c3 T2 r1b r2 z3
                          have c4 := T3.out.dirtyP
                          rw [hDD] at c4
                          go_wp2_with fail
                          refine c4.mono ?_
                          rintro e v4 ⟨vc, rfl, r4, z4⟩
                          obtain ⟨a4, n4, rfl, _, _⟩ := r4.len
                          have T4 : Hid (Tw w0 v4 p g q gq (66 * (i + 1)) Z Z []) := T3.out.below z4
                          clear c4 T3
                          have c5 := T4.out.dirtyR
                          rw [hDD] at c5
                          go_wp2_with fail
                          refine c5.mono ?_
                          rintro e v5 ⟨vd, rfl, r5, z5⟩
                          obtain ⟨a5, n5, rfl, _, _⟩ := r5.len
                          have r4b := r4.below' z5
                          have T5 : Hid (Tw w0 v5 p g q gq (66 * (i + 1)) Z Z []) := T4.out.below z5
                          clear c5 T4 r4 z4 z5
                          have c6 := intsEq_any DD r4b r5 hf2
                          go_wp2_with fail
                          refine c6.mono ?_
                          rintro e v6 ⟨rfl, z6⟩
                          have T6 : Hid (Tw w0 v6 p g q gq (66 * (i + 1)) Z Z []) := T5.out.below z6
                          clear c6 T5 r4b r5 z6 hHH hDD
                          have c7 := T6.out.readsP
                          go_wp2_with fail
                          refine c7.mono ?_
                          rintro e v7 ⟨rfl, z7⟩
                          rw [z7]
                          clear z7 c7
                          have c8 := T6.out.readsR
                          go_wp2_with fail
                          refine c8.mono ?_
                          rintro e v8 ⟨rfl, z8⟩
                          rw [z8]
                          clear z8 c8
                          have c9 := T6.out.writesP
                          go_wp2_with fail
                          refine c9.mono ?_
                          rintro e v9 ⟨rfl, z9⟩
                          rw [z9]
                          clear z9 c9
                          have c10 := T6.out.writesR
                          go_wp2_with fail
                          refine c10.mono ?_
                          rintro e v10 ⟨rfl, z10⟩
                          rw [z10]
                          clear z10 c10
                          have c11 := T6.out.opsP
                          go_wp2_with fail
                          refine c11.mono ?_
                          rintro e v11 ⟨rfl, z11⟩
                          rw [z11]
                          clear z11 c11
                          have c12 := T6.out.opsR
                          go_wp2_with fail
                          refine c12.mono ?_
                          rintro e v12 ⟨rfl, z12⟩
                          rw [z12]
                          clear z12 c12
                          have c13 := T6.out.hldP
                          go_wp2_with fail
                          refine c13.mono ?_
                          rintro e v13 ⟨rfl, z13⟩
                          rw [z13]
                          clear z13 c13
                          have c14 := T6.out.hldR
                          go_wp2_with fail
                          refine c14.mono ?_
                          rintro e v14 ⟨rfl, z14⟩
                          rw [z14]
                          clear z14 c14
                          go_wp2_with fail
                          go_roundw
                          case rel => exact ⟨i + 1, Z, by omega, by go_num, T6.out⟩
                          case measure => simp [intOf]; omega
                      · skip
                        have e0 : (kind == 0) = false := by rw [beq_eq_false_iff_ne]; exact hk0
                        have e1 : (kind == 1) = false := by rw [beq_eq_false_iff_ne]; exact hk1
                        have e2 : (kind == 2) = false := by rw [beq_eq_false_iff_ne]; exact hk2
                        have e3 : (kind == 3) = false := by rw [beq_eq_false_iff_ne]; exact hk3
                        have e4 : (kind == 4) = false := by rw [beq_eq_false_iff_ne]; exact hk4
                        have e5 : (kind == 5) = false := by rw [beq_eq_false_iff_ne]; exact hk5
                        have e6 : (kind == 6) = false := by rw [beq_eq_false_iff_ne]; exact hk6
                        have e7 : (kind == 7) = false := by rw [beq_eq_false_iff_ne]; exact hk7
                        clear hk0 hk1 hk2 hk3 hk4 hk5 hk6 hk7
                        as_aux_lemma =>
                          have T : Hid (Tw w0 (wr.alloc (.cells #[.int .i64 kind, .int .i64 at_, .int .u8 (fb.toNat : Int)] 38)) p g q gq (66 * (i + 1)) S S []) := (t1.mono (by omega)).less (fun y hy => by cases hy)
                          have t0 := t1
                          clear t1 t0 ho
                          generalize S = Z at *
                          go_wp2_with fail
                          generalize wr.alloc (.cells #[.int .i64 kind, .int .i64 at_, .int .u8 (fb.toNat : Int)] 38) = wT at *

                          have hfew := T.out.few
                          obtain ⟨HH, hHH⟩ : ∃ HH, heldS Z = HH := ⟨_, rfl⟩
                          obtain ⟨DD, hDD⟩ : ∃ DD, dirtyS Z = DD := ⟨_, rfl⟩
                          rw [hHH, hDD] at hfew
                          have hf1 : HH.length ≤ 1000000 := by omega
                          have hf2 : DD.length ≤ 1000000 := by omega
                          clear hfew
                          have c1 := T.out.heldP
                          rw [hHH] at c1
                          go_wp2_with fail
                          refine c1.mono ?_
                          rintro e v1 ⟨va, rfl, r1, z1⟩
                          obtain ⟨a1, n1, rfl, _, _⟩ := r1.len
                          have T1 : Hid (Tw w0 v1 p g q gq (66 * (i + 1)) Z Z []) := T.out.below z1
                          clear c1 T
                          have c2 := T1.out.heldR
                          rw [hHH] at c2
                          go_wp2_with fail
                          refine c2.mono ?_
                          rintro e v2 ⟨vb, rfl, r2, z2⟩
                          obtain ⟨a2, n2, rfl, _, _⟩ := r2.len
                          have r1b := r1.below' z2
                          have T2 : Hid (Tw w0 v2 p g q gq (66 * (i + 1)) Z Z []) := T1.out.below z2
                          clear c2 T1 r1 z1 z2
                          have c3 := intsEq_any HH r1b r2 hf1
                          go_wp2_with fail
                          refine c3.mono ?_
                          rintro e v3 ⟨rfl, z3⟩
                          have T3 : Hid (Tw w0 v3 p g q gq (66 * (i + 1)) Z Z []) := T2.out.below z3
                          clear c3 T2 r1b r2 z3
                          have c4 := T3.out.dirtyP
                          rw [hDD] at c4
                          go_wp2_with fail
                          refine c4.mono ?_
                          rintro e v4 ⟨vc, rfl, r4, z4⟩
                          obtain ⟨a4, n4, rfl, _, _⟩ := r4.len
                          have T4 : Hid (Tw w0 v4 p g q gq (66 * (i + 1)) Z Z []) := T3.out.below z4
                          clear c4 T3
                          have c5 := T4.out.dirtyR
                          rw [hDD] at c5
                          go_wp2_with fail
                          refine c5.mono ?_
                          rintro e v5 ⟨vd, rfl, r5, z5⟩
                          obtain ⟨a5, n5, rfl, _, _⟩ := r5.len
                          have r4b := r4.below' z5
                          have T5 : Hid (Tw w0 v5 p g q gq (66 * (i + 1)) Z Z []) := T4.out.below z5
                          clear c5 T4 r4 z4 z5
                          have c6 := intsEq_any DD r4b r5 hf2
                          go_wp2_with fail
                          refine c6.mono ?_
                          rintro e v6 ⟨rfl, z6⟩
                          have T6 : Hid (Tw w0 v6 p g q gq (66 * (i + 1)) Z Z []) := T5.out.below z6
                          clear c6 T5 r4b r5 z6 hHH hDD
                          have c7 := T6.out.readsP
                          go_wp2_with fail
                          refine c7.mono ?_
                          rintro e v7 ⟨rfl, z7⟩
                          rw [z7]
                          clear z7 c7
                          have c8 := T6.out.readsR
                          go_wp2_with fail
                          refine c8.mono ?_
                          rintro e v8 ⟨rfl, z8⟩
                          rw [z8]
                          clear z8 c8
                          have c9 := T6.out.writesP
                          go_wp2_with fail
                          refine c9.mono ?_
                          rintro e v9 ⟨rfl, z9⟩
                          rw [z9]
                          clear z9 c9
                          have c10 := T6.out.writesR
                          go_wp2_with fail
                          refine c10.mono ?_
                          rintro e v10 ⟨rfl, z10⟩
                          rw [z10]
                          clear z10 c10
                          have c11 := T6.out.opsP
                          go_wp2_with fail
                          refine c11.mono ?_
                          rintro e v11 ⟨rfl, z11⟩
                          rw [z11]
                          clear z11 c11
                          have c12 := T6.out.opsR
                          go_wp2_with fail
                          refine c12.mono ?_
                          rintro e v12 ⟨rfl, z12⟩
                          rw [z12]
                          clear z12 c12
                          have c13 := T6.out.hldP
                          go_wp2_with fail
                          refine c13.mono ?_
                          rintro e v13 ⟨rfl, z13⟩
                          rw [z13]
                          clear z13 c13
                          have c14 := T6.out.hldR
                          go_wp2_with fail
                          refine c14.mono ?_
                          rintro e v14 ⟨rfl, z14⟩
                          rw [z14]
                          clear z14 c14
                          go_wp2_with fail
                          go_roundw
                          case rel => exact ⟨i + 1, Z, by omega, by go_num, T6.out⟩
                          case measure => simp [intOf]; omega
      · obtain ⟨Q, dvs⟩ := hre.dv
        have DV : Hid (Dv w0 wr g gq S.D Q) := dvs
        generalize S.D = D at *
        clear hre dvs hbw T0
        go_wp2_with fail
        all_goals try (exfalso; omega)
        all_goals (
          go_loopw [23] (fun si wr => ∃ j : Nat, j ≤ n ∧ si = .int .i64 (j : Int) ∧ Dv w0 wr g gq D Q) (fun si _ => n - (intOf si).toNat)
          case atStart => exact ⟨0, by omega, rfl, DV.out⟩
          case round =>
            obtain ⟨j, hj, rfl, dv⟩ := hrel
            by_cases hjn : j < n
            · have hjn2 : (j : Int) < (n : Int) := by omega
              obtain ⟨T, E, c1, c2⟩ := dv.read (j : Int)
              have DW : Hid (Dv w0 wr g gq D Q) := dv
              clear dv
              go_wp2_with fail
              refine c1.mono ?_
              rintro e v1 ⟨rfl, z1⟩
              clear c1
              have c3 := c2 v1 (DW.out.below z1)
              have DW2 : Hid (Dv w0 v1 g gq D Q) := DW.out.below z1
              clear c2 DW
              go_wp2_with fail
              refine c3.mono ?_
              rintro e v2 ⟨rfl, z2⟩
              rw [z2]
              clear z2 c3
              go_wp2_with fail
              go_roundw
              case rel => exact ⟨j + 1, by omega, by go_num, DW2.out⟩
              case measure => simp [intOf]; omega
            · obtain rfl : j = n := by omega
              have cW := wakes_any wr
              have hb9 := dv.bel
              clear dv
              go_wp2_with fail
              refine cW.mono ?_
              rintro e w9 ⟨rfl, hb10⟩
              go_wp2_with fail
              go_ret
              exact ⟨rfl, below2 hb9 hb10⟩)

set_option maxRecDepth 100000 in
theorem poolPlays_any {H : Type} {enc : TypeId × Value → H} {base : Nat} {d : DataW H} {ps : List MemPlace} (se fr : Int) (v : Value) (W : World) (hse : -9223372036854775808 ≤ se ∧ se ≤ 9223372036854775807) (hfr : -9223372036854775808 ≤ fr ∧ fr ≤ 9223372036854775807) (hv : Value.okWide Tryz.prog W .any base 22 v) (h : DataW.Trod enc Tryz.prog W 0 (fun _ => true) true 22 v d ps) :
    Calls Tryz.prog 3 #[.int .i64 se, .int .i64 fr, v] W fun e w' => e = .returned (.bool true) ∧ Below W.heap.size W w' := by
  obtain ⟨a, L, c, rfl, h1, h2, h3, h4⟩ := open_steps hv h
  exact poolPlays_walk se fr a L c W hse hfr h1 h4 h2 h3
end Go.Proofs.YtghocbaafdnddaaGreat
end

section
namespace Go.Proofs.YtghocbaafdnddaaGreat.poolPlays
open Go.ChangeShapes Go.WideShapes Go.ChangeAt Go.RowKit
open Go.ChangeMaps (open_string shut_string)

theorem own : ownKnob Tryz.prog.godebug = none := by kernel_rfl
theorem laidOut : laidOutB Tryz.prog = true := by kernel_rfl

set_option maxRecDepth 100000 in
theorem lifted (os : Os) (started : os.Started) (H : Type) (enc : TypeId × Value → H) :
    ReturnsInHanded {} Tryz.checked os 3 .any (Rows.poolPlaysSpec.pre6 enc Tryz.prog Tryz.f3 Rows.poolPlaysRow.domain false) (Rows.poolPlaysSpec.post enc Tryz.prog Tryz.f3 false true false false) := by
  refine returnsInHanded_of_change (C := Tryz.checked) own started (by kernel_rfl) Tryz.func3
    (ChangeSpec.witness6 (enc := enc) (C := Tryz.checked) false ⟨#[], #[.int .i64 0, .int .i64 0, .slice none 0 0], []⟩ 8 (by kernel_rfl) (by kernel_rfl) (by kernel_rfl) (by kernel_rfl)) ?_
  intro W base args ds gs before hval0 hW hcnd _
  have hval : ∀ (j : Nat) t v, Tryz.f3.params[j]? = some t → args[j]? = some v → Value.okWide Tryz.prog W .any base t v := hval0
  have hW' := hW
  obtain ⟨p, q, hA0, hV, rfl, hfz, hnd⟩ := hW
  have hA : DataW.TrodAll enc Tryz.prog W 0 (fun _ => true) true Tryz.f3.params.toList args.toList ds p := hA0
  rw [Tryz.params3] at hA hval
  obtain ⟨v0, vs0, d0, ds0, p0, q0, hargs, rfl, rfl, h0, r0⟩ := trodAll_cons hA
  obtain ⟨v1, vs1, d1, ds1, p1, q1, rfl, rfl, rfl, h1, r1⟩ := trodAll_cons r0
  obtain ⟨v2, vs2, d2, ds2, p2, q2, rfl, rfl, rfl, h2, r2⟩ := trodAll_cons r1
  obtain ⟨rfl, rfl, rfl⟩ := trodAll_nil r2
  obtain rfl : args = #[v0, v1, v2] := by cases args; simp_all
  obtain ⟨rfl, rfl⟩ := trodVars_none hV
  obtain ⟨a0, rfl, rfl, rfl, w0⟩ := open_int Tryz.underlying3 (hval 0 3 v0 rfl rfl) h0
  obtain ⟨a1, rfl, rfl, rfl, w1⟩ := open_int Tryz.underlying3 (hval 1 3 v1 rfl rfl) h1
  have k2 := h2
  have lt2 : ∀ x ∈ p2, x.block < W.heap.size := by obtain ⟨m, hm⟩ := k2; exact DataW.trod_lt m _ _ _ hm
  clear hA0 hval0
  refine (poolPlays_any a0 a1 v2 W (bounds_i64 w0) (bounds_i64 w1) (hval 2 22 v2 rfl rfl) h2).mono fun e W' ⟨he, bel⟩ => ?_
  subst he
  exact ⟨_, rfl, _, _, _, [], _, [], hW', trodAll_mk1 (shut_bool Tryz.underlying4 _), (trodAll_cons_mk (shut_int Tryz.underlying3 w0) (trodAll_cons_mk (shut_int Tryz.underlying3 w1) (trodAll_cons_mk (Below.trod laidOut (by kernel_rfl) (of_decide_eq_true (by kernel_rfl)) k2 bel lt2) trodAll_mk0))), rfl, bel.frame _, fun h => by cases h⟩

theorem over : Rows.poolPlaysRow.holds Tryz.pinned (OpenSpec.ofChange Rows.poolPlaysSpec) :=
  OpenClaim.holds_of_wide 3 Tryz.f3 rfl rfl rfl rfl rfl rfl rfl ⟨rfl, rfl, rfl, rfl, rfl⟩ rfl rfl rfl rfl rfl (by kernel_rfl) Tryz.func3 (by kernel_rfl)
    (of_decide_eq_true (by kernel_rfl)) (by unfold Func.isWrapper; first | (rw [if_pos (by decide +kernel)]; kernel_rfl) | (rw [if_neg (by decide +kernel)]; exact ⟨rfl, rfl⟩))
    (fun os started H enc _ => lifted os started H enc)

end Go.Proofs.YtghocbaafdnddaaGreat.poolPlays
namespace Go.Proofs.YtghocbaafdnddaaGreat
theorem poolPlays_holds : Rows.PoolPlaysSaid := poolPlays.over
#print axioms poolPlays_holds
end Go.Proofs.YtghocbaafdnddaaGreat
end

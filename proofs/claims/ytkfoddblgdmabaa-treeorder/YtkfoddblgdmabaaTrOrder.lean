/- TreeOrder: the walk. -/
import Derived.Test.YtkfoddblgdmabaaTrOrderM
import Derived.Test.YtkfoddblgdmabaaTrMod
namespace Go.Proofs.Ytkfoddblgdmabaa.tr
open Go.RowKit

theorem RowR.oth {w w' : World} {B : Nat} {v : Value} {l : List Ent} (h : RowR w B v l) (o : OthT w w') : RowR w' B v l := h.kept (fun k e => by
  by_cases h0 : v = .slice none 0 0
  · subst h0; simp [Value.ownBlock] at e
  · obtain ⟨b, c, cur, rfl, hb, _⟩ := h.obj h0
    have h1 : b = k := by simpa [Value.ownBlock] using e
    subst h1
    exact o b cur _ hb (by unfold tT; decide))

/-- The calls of the second. -/
theorem Tb.putb {W w : World} {ta fa tb fb q : Nat} {La Lb Lr : List Ent} (x : Tb W w ta fa La tb fb Lb q Lr) (key : ByteArray) (z : Int) (hk : key.size ≤ 4096) (hl : Lb.length < 4096) : Calls Try.prog 12 #[.pointer (some ⟨tb, 0, none⟩), .string key, .int .i64 z] w fun e w' => e = .returned (.tuple #[.bool (putT key z Lb).1, .int .i64 (putT key z Lb).2.1]) ∧ Tb W w' ta fa La tb fb (putL key z Lb) q Lr ∧ OthT w w' := by
  refine (x.swap.put key z (by omega)).mono ?_
  rintro e w' ⟨he, b, o⟩
  rw [putT_room z hk hl] at b
  exact ⟨he, b.swap, o⟩
theorem Tb.delb {W w : World} {ta fa tb fb q : Nat} {La Lb Lr : List Ent} (x : Tb W w ta fa La tb fb Lb q Lr) (key : ByteArray) : Calls Try.prog 14 #[.pointer (some ⟨tb, 0, none⟩), .string key] w fun e w' => e = .returned (.bool (hasL key Lb)) ∧ Tb W w' ta fa La tb fb (delL key Lb) q Lr ∧ OthT w w' := by
  refine (x.swap.del key).mono ?_
  rintro e w' ⟨he, b, o⟩
  exact ⟨he, b.swap, o⟩
theorem OthT.trans {a b c : World} (h : OthT a b) (k : OthT b c) : OthT a c := fun i cur T e g => by
  have h1 := h i cur T e g
  rw [← h1] at e
  exact (k i cur T e g).trans h1

set_option maxHeartbeats 25600000 in
set_option maxRecDepth 100000 in
theorem order_on (a0 : Option Addr) (L : List Sp) (cap : Nat) (a1 : Option Addr) (Kt : List Int) (cap1 : Nat) (a2 : Option Addr) (Ot : List ByteArray) (cap2 : Nat) (W : World) (hL : SlS W a0 L) (hcap : L.length ≤ maxLen)
    (hK : SlG W a1 1 (fun x => [.int .i64 x]) Kt) (hkap : Kt.length ≤ maxLen) (hkb : ∀ x ∈ Kt, i64B x) (hO : SlG W a2 1 (fun s => [.string s]) Ot) (hoap : Ot.length ≤ maxLen) :
    Calls Try.prog 5 #[.slice a0 L.length cap, .slice a1 Kt.length cap1, .slice a2 Ot.length cap2] W fun e w' => e = .returned (.bool true) ∧ Below W.heap.size W w' := by
  have cN := new_any W 3 (by decide) (by decide)
  have HL : Hid (SlS W a0 L) := hL
  have HKt : Hid (SlG W a1 1 (fun x => [.int .i64 x]) Kt ∧ ∀ x ∈ Kt, i64B x) := ⟨hK, hkb⟩
  have HOt : Hid (SlG W a2 1 (fun s => [.string s]) Ot) := hO
  have hkl : (Kt.length : Int) ≤ 9223372036854775807 := by unfold maxLen at hkap; omega
  have hol : (Ot.length : Int) ≤ 9223372036854775807 := by unfold maxLen at hoap; omega
  clear hkb hK hO hkap hoap
  go_enter Try.func5, Try.ntmps5
  go_wp2_with fail
  refine cN.mono ?_
  rintro e w1 ⟨ta, Ma, rfl, t1, h1⟩
  have HT1 := (show Hid _ from And.intro t1 h1)
  have cN2 := new_any w1 64 (by decide) (by decide)
  clear cN t1 h1
  go_wp2_with fail
  refine cN2.mono ?_
  rintro e w2 ⟨tb, Mb, rfl, t2, h2⟩
  have HB2 := (show Hid _ from below2 HT1.out.2 h2)
  have HB0 := (show Hid _ from Tb.start HT1.out.1 HT1.out.2 t2 h2)
  have cF := fair_any a0 L cap w2 (hL.kept HB2.out) hcap
  have cW := wakes_any w2
  clear cN2 t2 h2 hL
  go_wp2_with fail
  refine cF.mono ?_
  rintro e w3 ⟨rfl, hw⟩
  rw [hw]
  clear hw cF w3
  cases hfr : fairL L
  · go_wp2_with fail
    refine cW.mono ?_
    rintro e w3 ⟨rfl, b3⟩
    clear cW
    go_wp2_with fail
    go_ret
    exact ⟨rfl, below2 HB2.out b3⟩
  by_cases hot : 100 < Ot.length
  · have hot2 : (100 : Int) < (Ot.length : Int) := by omega
    go_wp2_with fail
    refine cW.mono ?_
    rintro e w3 ⟨rfl, b3⟩
    clear cW
    go_wp2_with fail
    go_ret
    exact ⟨rfl, below2 HB2.out b3⟩
  have hot2 : ¬ ((100 : Int) < (Ot.length : Int)) := by omega
  have HF := (show Hid _ from fair_of hfr)
  have hlen2 : L.length ≤ 400 := HF.out.1
  clear hfr HT1 cW hcap
  go_wp2_with fail
  generalize w2.heap.size = q at *
  generalize w2.alloc (.cells #[.slice none 0 0] 32) = w3 at *
  go_loopw [12] (fun si wr => ∃ (i : Nat) (Lx : List Ent), i ≤ L.length ∧ si = .int .i64 (i : Int) ∧ Hid (Tb W wr ta 3 Lx tb 64 [] q Lx) ∧ Hid (Lx.length ≤ i)) (fun si _ => L.length - (Go.RowKit.intOf si).toNat)
  case atStart => exact ⟨0, [], Nat.zero_le _, rfl, HB0.out, Nat.le_refl _⟩
  case round =>
    clear HB0
    obtain ⟨i, Lx, hi, rfl, hr, hLi⟩ := hrel
    by_cases hlt : i < L.length
    · have hlt2 : (i : Int) < (L.length : Int) := by omega
      have hx : L[i]? = some L[i] := by simp [hlt]
      generalize L[i] = s at hx
      have hks := HF.out.2 s (List.mem_of_getElem? hx)
      obtain ⟨b, off, rfl, hst⟩ := HL.out.step hx
      have HC : Hid (∀ V, Below W.heap.size W V → V.cell? ⟨b, off + i * 3 + 1, none⟩ = some (.string s.key) ∧ V.cell? ⟨b, off + i * 3 + 2, none⟩ = some (.int .i64 s.n)) := fun V hV => ⟨(hst.below hV).c1, (hst.below hV).c2⟩
      obtain ⟨y1, y2⟩ := HC.out _ hr.out.bel
      clear hst hx
      obtain ⟨kk, key, z⟩ := s
      simp only at y1 y2 hks HC
      have HS : Hid ((putT key z Lx).2.2.length ≤ i + 1) := by have h1 := putT_succ key z hr.out.one.srt; have h2 := hLi.out; show _ ≤ _; omega
      have cP := (hr.out.below (below_drew wr)).put key z (by omega)
      have hS := HC.out _ (hr.out.below (below_drew wr)).bel
      go_wp2_with fail
      apply wp_end (R := fun U => Tb W U ta 3 (putT key z Lx).2.2 tb 64 [] q Lx)
      case h =>
        go_region_held3 (fun U => U.cell? ⟨b, off + i * 3 + 1, none⟩ = some (.string key) ∧ U.cell? ⟨b, off + i * 3 + 2, none⟩ = some (.int .i64 z)) (first | exact hB | exact hS | go_keep)
          (first | (go_at_call 12; refine cP.mono ?_; rintro e w4 ⟨rfl, b5, o5⟩; have hB := HC.out _ b5.bel))
        all_goals exact EndQ.mk b5
      rintro w4 b5
      have HB4 := (show Hid _ from b5)
      clear cP hS b5
      clear y1 y2
      have cP := (HB4.out.below (below_drew w4)).rput key z hr.out.one.srt
      have hS := HC.out _ (HB4.out.below (below_drew w4)).bel
      go_wp2_with fail
      apply wp_end (R := fun U => Tb W U ta 3 (putT key z Lx).2.2 tb 64 [] q (putT key z Lx).2.2)
      case h =>
        go_region_held3 (fun U => U.cell? ⟨b, off + i * 3 + 1, none⟩ = some (.string key) ∧ U.cell? ⟨b, off + i * 3 + 2, none⟩ = some (.int .i64 z)) (first | exact hB | exact hS | go_keep)
          (first | (go_at_call 13; refine cP.mono ?_; rintro e w5 ⟨rfl, b5⟩; have hB := HC.out _ b5.bel))
        all_goals exact EndQ.mk b5
      rintro w5 b5
      have HB5 := (show Hid _ from b5)
      clear cP hS b5
      go_wp2_with fail
      go_roundw
      case rel => exact ⟨i + 1, _, by omega, by go_num, HB5.out, HS⟩
      case measure => simp [Go.RowKit.intOf]; omega
    · obtain rfl : i = L.length := by omega
      have hl4 : Lx.length ≤ 400 := by have := hLi.out; omega
      have HSX : Hid (Srt Lx ∧ Ks Lx) := ⟨hr.out.one.srt, hr.out.one.ks⟩
      have hr1 := hr.out.below (below_alloc1 wr (.cells #[] 54))
      obtain ⟨M3, v3, t3, r3⟩ := hr1.one.ex
      obtain ⟨va, vc, ev3, _, _⟩ := r3.row.len
      have z0 : (wr.alloc (.cells #[] 54)).cell? ⟨q, 0, none⟩ = some (.slice va Lx.length vc) := by rw [(cell_obj (j := 0) r3.top).1, ← ev3]; rfl
      have hrow : RowR (wr.alloc (.cells #[] 54)) W.heap.size (.slice va Lx.length vc) Lx := by rw [← ev3]; exact r3.row
      have hmade := rrow_made wr (Nat.le_refl _)
      clear t3 r3 ev3 hLi hlt hlen2
      go_wp2_with (at_builtin; refine wpList_append_rows (v := .slice (some ⟨wr.heap.size, 0, none⟩) 0 0) (v2 := .slice va Lx.length vc) gE_len gE_one Try.underlying30 Try.infoR rfl (by decide) (by decide) rfl (.tmp 86) (.tmp 90) rfl rfl hmade rfl hrow (by simp; omega) (by simp) ?_; intro v5 w5 row5 fr5 new5)
      have hb5 : Below wr.heap.size wr w5 := fr5.below (below_alloc1 wr _) (by simp) (fun k e => by
        have h1 : wr.heap.size = k := by simpa [Value.ownBlock] using e
        omega)
      rw [List.nil_append] at row5
      have hw5 := (show Hid _ from hr.out.below hb5)
      obtain ⟨N, hN⟩ : ∃ N, wr.heap.size = N := ⟨_, rfl⟩
      rw [hN] at row5 hb5
      obtain ⟨n, hn⟩ : ∃ n, Lx.length = n := ⟨_, rfl⟩
      obtain ⟨ra, rc, ev, hrc, _⟩ := row5.len
      rw [hn] at ev hl4 hrc ⊢
      subst ev
      have HR5 := (show Hid _ from row5)
      have HN : Hid (Lx.length = n) := hn
      obtain ⟨w0, hw0⟩ : ∃ w0, w0 = wr := ⟨_, rfl⟩
      subst hw0
      have HW0 : Hid (Tb W w0 ta 3 Lx tb 64 [] q Lx) := hr.out
      have HNW : Hid (w0.heap.size = N) := hN
      have HB5 : Hid (Below N w0 w5) := hb5
      clear row5 fr5 new5 hb5 hr1 hmade hrow z0 hr hN hw5 hn
      go_wp2_with fail
      go_loopw [14] (fun si wr => ∃ (i : Nat) (O : List Ent), i ≤ 401 ∧ si = .int .i64 (i : Int) ∧ Hid (O.Perm Lx) ∧ Hid (RowR wr N (.slice ra n rc) O) ∧ Hid (Below N w0 wr)) (fun si _ => 500 - (Go.RowKit.intOf si).toNat)
      case atStart => exact ⟨0, Lx, by omega, rfl, List.Perm.refl _, HR5.out, HB5.out⟩
      case round =>
        clear HR5 HB5
        obtain ⟨i, O, hi, rfl, hpm, hro, hbe⟩ := hrel
        have hOl : O.length = n := by rw [hpm.out.length_eq, HN.out]
        have hr : Hid (Tb W wr ta 3 Lx tb 64 [] q Lx) := HW0.out.below (by rw [HNW.out]; exact hbe.out)
        by_cases hgo : i + 1 < Kt.length ∧ 0 < n ∧ i < 400
        · obtain ⟨hg1, hg2, hg3⟩ := hgo
          have i1 : (i : Int) + 1 < (Kt.length : Int) := by omega
          have i1' : (i : Int) < (Kt.length : Int) := by omega
          have i2 : (0 : Int) < (n : Int) := by omega
          have i3 : (i : Int) < 400 := by omega
          have hk1 : Kt[i]? = some Kt[i] := by simp
          have hk2 : Kt[i + 1]? = some Kt[i + 1] := by simp
          generalize Kt[i] = k1 at hk1
          generalize Kt[i + 1] = k2 at hk2
          obtain ⟨b, off, ea, c1⟩ := HKt.out.1.one (g := fun x => .int .i64 x) hk1
          obtain ⟨b', off', ea', c2⟩ := HKt.out.1.one (g := fun x => .int .i64 x) hk2
          rw [ea] at ea'
          injection ea' with ea'
          injection ea' with eb eo _
          subst eb eo ea
          obtain ⟨r1, hr1, cM1⟩ := mod_all k1 n (HKt.out.2 k1 (List.mem_of_getElem? hk1)) hg2 (by omega)
          obtain ⟨r2, hr2, cM2⟩ := mod_all k2 n (HKt.out.2 k2 (List.mem_of_getElem? hk2)) hg2 (by omega)
          clear hk1 hk2 hg1
          go_wp2_with fail
          have CE : Hid (∀ V, Below wr.heap.size wr V → V.cell? ⟨b, off + i, none⟩ = some (.int .i64 k1) ∧ V.cell? ⟨b, off + (i + 1), none⟩ = some (.int .i64 k2)) := fun V hV => ⟨c1 _ (hr.out.below hV).bel, c2 _ (hr.out.below hV).bel⟩
          clear c1 c2
          refine anyL_begin (S := fun V => Below wr.heap.size wr V) (n := 16) (by kernel_rfl) (below_drew wr) (fun hHeld => ?_)
          refine takeL 0 108 (v := .slice (some ⟨b, off, none⟩) Kt.length cap1) rfl rfl (by kernel_rfl) (by kernel_rfl) (by kernel_rfl) (by kernel_rfl) (fun _ _ _ h => h) (Or.inl ⟨by rfl, by (intro W hSw; obtain ⟨s1, s2⟩ := CE.out W hSw; go_simp)⟩) hHeld ?_
          simp only [List.setIfInBounds_toArray, List.set_cons_zero, List.set_cons_succ]
          refine takeL 1 109 (v := .int .i64 (i : Int)) rfl rfl (by kernel_rfl) (by kernel_rfl) (by kernel_rfl) (by kernel_rfl) (fun _ _ _ h => h) (Or.inl ⟨by rfl, by (intro W hSw; obtain ⟨s1, s2⟩ := CE.out W hSw; go_simp)⟩) hHeld ?_
          simp only [List.setIfInBounds_toArray, List.set_cons_zero, List.set_cons_succ]
          refine takeL 2 110 (v := .pointer (some ⟨b, off + i, none⟩)) rfl rfl (by kernel_rfl) (by kernel_rfl) (by kernel_rfl) (by kernel_rfl) (fun _ _ _ h => h) (Or.inl ⟨by rfl, by (intro W hSw; obtain ⟨s1, s2⟩ := CE.out W hSw; go_simp)⟩) hHeld ?_
          simp only [List.setIfInBounds_toArray, List.set_cons_zero, List.set_cons_succ]
          refine takeL 3 111 (v := .int .i64 k1) rfl rfl (by kernel_rfl) (by kernel_rfl) (by kernel_rfl) (by kernel_rfl) (fun _ _ _ h => h) (Or.inl ⟨by rfl, by (intro W hSw; obtain ⟨s1, s2⟩ := CE.out W hSw; go_simp)⟩) hHeld ?_
          simp only [List.setIfInBounds_toArray, List.set_cons_zero, List.set_cons_succ]
          refine takeL 4 112 (v := .slice ra n rc) rfl rfl (by kernel_rfl) (by kernel_rfl) (by kernel_rfl) (by kernel_rfl) (fun _ _ _ h => h) (Or.inl ⟨by rfl, by (intro W hSw; obtain ⟨s1, s2⟩ := CE.out W hSw; go_simp)⟩) hHeld ?_
          simp only [List.setIfInBounds_toArray, List.set_cons_zero, List.set_cons_succ]
          refine takeL 5 113 (v := .int .i64 (n : Int)) rfl rfl (by kernel_rfl) (by kernel_rfl) (by kernel_rfl) (by kernel_rfl) (fun _ _ _ h => h) (Or.inl ⟨by rfl, by (intro W hSw; obtain ⟨s1, s2⟩ := CE.out W hSw; go_simp)⟩) hHeld ?_
          simp only [List.setIfInBounds_toArray, List.set_cons_zero, List.set_cons_succ]
          refine takeL 7 115 (v := .slice (some ⟨b, off, none⟩) Kt.length cap1) rfl rfl (by kernel_rfl) (by kernel_rfl) (by kernel_rfl) (by kernel_rfl) (fun _ _ _ h => h) (Or.inl ⟨by rfl, by (intro W hSw; obtain ⟨s1, s2⟩ := CE.out W hSw; go_simp)⟩) hHeld ?_
          simp only [List.setIfInBounds_toArray, List.set_cons_zero, List.set_cons_succ]
          refine takeL 8 116 (v := .int .i64 (i : Int)) rfl rfl (by kernel_rfl) (by kernel_rfl) (by kernel_rfl) (by kernel_rfl) (fun _ _ _ h => h) (Or.inl ⟨by rfl, by (intro W hSw; obtain ⟨s1, s2⟩ := CE.out W hSw; go_simp)⟩) hHeld ?_
          simp only [List.setIfInBounds_toArray, List.set_cons_zero, List.set_cons_succ]
          refine takeL 9 117 (v := .int .i64 ((i : Int) + 1)) rfl rfl (by kernel_rfl) (by kernel_rfl) (by kernel_rfl) (by kernel_rfl) (fun _ _ _ h => h) (Or.inl ⟨by rfl, by (intro W hSw; obtain ⟨s1, s2⟩ := CE.out W hSw; go_simp; exact IntWalk.i64_in _ (by omega))⟩) hHeld ?_
          simp only [List.setIfInBounds_toArray, List.set_cons_zero, List.set_cons_succ]
          refine takeL 10 118 (v := .pointer (some ⟨b, off + (i + 1), none⟩)) rfl rfl (by kernel_rfl) (by kernel_rfl) (by kernel_rfl) (by kernel_rfl) (fun _ _ _ h => h) (Or.inl ⟨by rfl, by (intro W hSw; obtain ⟨s1, s2⟩ := CE.out W hSw; go_simp; intro hq; exact absurd hq (by omega))⟩) hHeld ?_
          simp only [List.setIfInBounds_toArray, List.set_cons_zero, List.set_cons_succ]
          refine takeL 11 119 (v := .int .i64 k2) rfl rfl (by kernel_rfl) (by kernel_rfl) (by kernel_rfl) (by kernel_rfl) (fun _ _ _ h => h) (Or.inl ⟨by rfl, by (intro W hSw; obtain ⟨s1, s2⟩ := CE.out W hSw; go_simp)⟩) hHeld ?_
          simp only [List.setIfInBounds_toArray, List.set_cons_zero, List.set_cons_succ]
          refine takeL 12 120 (v := .slice ra n rc) rfl rfl (by kernel_rfl) (by kernel_rfl) (by kernel_rfl) (by kernel_rfl) (fun _ _ _ h => h) (Or.inl ⟨by rfl, by (intro W hSw; obtain ⟨s1, s2⟩ := CE.out W hSw; go_simp)⟩) hHeld ?_
          simp only [List.setIfInBounds_toArray, List.set_cons_zero, List.set_cons_succ]
          refine takeL 13 121 (v := .int .i64 (n : Int)) rfl rfl (by kernel_rfl) (by kernel_rfl) (by kernel_rfl) (by kernel_rfl) (fun _ _ _ h => h) (Or.inl ⟨by rfl, by (intro W hSw; obtain ⟨s1, s2⟩ := CE.out W hSw; go_simp)⟩) hHeld ?_
          simp only [List.setIfInBounds_toArray, List.set_cons_zero, List.set_cons_succ]
          refine anyL_one 6 (by kernel_rfl) (upL rfl (fun K hK => ?_))
          go_simp
          refine (cM1 _).mono ?_
          rintro e w6 ⟨rfl, h6⟩
          rw [h6]
          clear h6 w6
          go_simp
          refine hK.out _ _ (fun _ => hHeld) (fun hHeld0 => ?_)
          have hHeld := hHeld0 (by decide)
          clear hHeld0 hK K
          (try simp only [Act.put, List.setIfInBounds_toArray, List.set_cons_zero, List.set_cons_succ])
          refine anyL_one 14 (by kernel_rfl) (upL rfl (fun K hK => ?_))
          go_simp
          refine (cM2 _).mono ?_
          rintro e w6 ⟨rfl, h6⟩
          rw [h6]
          clear h6 w6
          go_simp
          refine hK.out _ _ (fun _ => hHeld) (fun hHeld0 => ?_)
          have hHeld := hHeld0 (by decide)
          clear hHeld0 hK K
          (try simp only [Act.put, List.setIfInBounds_toArray, List.set_cons_zero, List.set_cons_succ])
          refine anyL_one 15 (by kernel_rfl) (upL rfl (fun K hK => ?_))
          go_simp
          refine hK.out _ _ (fun _ => hHeld) (fun hHeld0 => ?_)
          have hHeld := hHeld0 (by decide)
          clear hHeld0 hK K
          (try simp only [Act.put, List.setIfInBounds_toArray, List.set_cons_zero, List.set_cons_succ])
          refine anyL_one 16 (by kernel_rfl) (upL rfl (fun K hK => ?_))
          go_simp
          refine hK.out _ _ (fun q => absurd rfl q) (fun _ => ?_)
          clear hK K
          (try simp only [Act.put, List.setIfInBounds_toArray, List.set_cons_zero, List.set_cons_succ])
          refine anyL_done (by kernel_rfl) ?_ _
          go_wp2_with fail
          have hro2 := (show Hid _ from hro.out.below' (below_drew wr))
          have hbe2 := (show Hid _ from Below.trans hbe.out ((below_drew wr).mono (Nat.le_trans (by rw [HNW.out]; exact Nat.le_refl _) hbe.out.size)))
          generalize wr.drew = wq at *
          clear hro hr hbe cM1 cM2 CE
          have hx1 : O[r1]? = some (O[r1]'(by omega)) := List.getElem?_eq_getElem _
          have hx2 : O[r2]? = some (O[r2]'(by omega)) := List.getElem?_eq_getElem _
          generalize O[r1]'(by omega) = e1 at hx1
          generalize O[r2]'(by omega) = e2 at hx2
          obtain ⟨rb, rc', ev, _, hB, hbl, s0⟩ := hro2.out.cell gE_len hx1
          obtain ⟨rb2, rc2', ev', _, _, _, t0⟩ := hro2.out.cell gE_len hx2
          rw [hOl] at ev ev'
          injection ev with q1 q2 q3
          subst q1 q3
          injection ev' with q4 q5 q6
          injection q4 with q4
          injection q4 with q4 _ _
          subst q4 q6
          obtain ⟨u0, f0⟩ := s0 0 _ rfl
          obtain ⟨u1, f1⟩ := s0 1 _ rfl
          obtain ⟨g0, d0⟩ := t0 0 _ rfl
          obtain ⟨g1, d1⟩ := t0 1 _ rfl
          rw [Nat.add_zero] at u0 f0 g0 d0
          have j1 : (r1 : Int) < (n : Int) := by omega
          have j2 : (r2 : Int) < (n : Int) := by omega
          have HEQ : Hid (r1 = r2 → e1 = e2) := fun e => by subst e; rw [hx1] at hx2; exact Option.some.inj hx2
          have HP : Hid ((swapL O r1 r2 e1 e2).Perm Lx) := (swap_perm hx1 hx2).trans hpm.out
          have HSW : Hid (RowR ((((wq.setCell ⟨rb, r1 * 2, none⟩ (.string e2.key)).setCell ⟨rb, r1 * 2 + 1, none⟩ (.int .i64 e2.n)).setCell ⟨rb, r2 * 2, none⟩ (.string e1.key)).setCell ⟨rb, r2 * 2 + 1, none⟩ (.int .i64 e1.n)).drew N (.slice (some ⟨rb, 0, none⟩) n rc) (swapL O r1 r2 e1 e2)) := by
            have h0 := hro2.out
            rw [← hOl] at h0
            have h := RowR.set (RowR.set h0 r1 e2) r2 e1
            rw [List.length_set, List.length_set, hOl] at h
            exact h.below' (below_drew _)
          have HBL : Hid (Below N w0 ((((wq.setCell ⟨rb, r1 * 2, none⟩ (.string e2.key)).setCell ⟨rb, r1 * 2 + 1, none⟩ (.int .i64 e2.n)).setCell ⟨rb, r2 * 2, none⟩ (.string e1.key)).setCell ⟨rb, r2 * 2 + 1, none⟩ (.int .i64 e1.n)).drew) :=
            Below.drew ((((hbe2.out.setCell (p := ⟨rb, _, none⟩) hB _).setCell (p := ⟨rb, _, none⟩) hB _).setCell (p := ⟨rb, _, none⟩) hB _).setCell (p := ⟨rb, _, none⟩) hB _)
          clear s0 t0 q2 q5 hx1 hx2
          by_cases hxy : r1 = r2
          · subst hxy
            obtain rfl := HEQ.out rfl
            clear g0 d0 g1 d1
            go_wp2_with fail
            go_region
            go_wp2_with fail
            go_roundw
            case rel => exact ⟨i + 2, swapL O r1 r1 e1 e1, by omega, by go_num, HP.out, HSW.out, HBL.out⟩
            case measure => simp [Go.RowKit.intOf]; omega
          · have hxz : r1 * 2 ≠ r2 * 2 := by omega
            go_wp2_with fail
            go_region
            go_wp2_with fail
            go_roundw
            case rel => exact ⟨i + 2, swapL O r1 r2 e1 e2, by omega, by go_num, HP.out, HSW.out, HBL.out⟩
            case measure => simp [Go.RowKit.intOf]; omega
        · by_cases g1 : i + 1 < Kt.length
          · have i1 : (i : Int) + 1 < (Kt.length : Int) := by omega
            by_cases g2 : 0 < n
            · have i2 : (0 : Int) < (n : Int) := by omega
              have i3 : ¬ ((i : Int) < 400) := by omega
              as_aux_lemma =>
                have HL3 : Hid (Tb W wr ta 3 Lx tb 64 [] q Lx ∧ RowR wr N (.slice ra n rc) O) := ⟨hr.out, hro.out⟩
                have HND : Hid ((O.map Ent.key).Nodup) := (hpm.out.map Ent.key).nodup_iff.2 (srt_nodup HSX.out.1)
                clear hr hro hbe
                go_wp2_with fail
                go_loopw [17] (fun si wr => ∃ (i : Nat) (Lb : List Ent), i ≤ n ∧ si = .int .i64 (i : Int) ∧ Hid (Tb W wr ta 3 Lx tb 64 Lb q Lx ∧ RowR wr N (.slice ra n rc) O ∧ Iv O Ot i i Lb) ∧ Hid (Lb.length ≤ 2 * i)) (fun si _ => n - (Go.RowKit.intOf si).toNat)
                case atStart => exact ⟨0, [], Nat.zero_le _, rfl, ⟨HL3.out.1, HL3.out.2, Iv.start O Ot⟩, Nat.le_refl _⟩
                case round =>
                  clear HL3 hi
                  obtain ⟨i, Lb, hi, rfl, H, hll⟩ := hrel
                  by_cases hlt : i < n
                  · have hlt2 : (i : Int) < (n : Int) := by omega
                    have hx : O[i]? = some (O[i]'(by omega)) := List.getElem?_eq_getElem _
                    generalize O[i]'(by omega) = x at hx
                    obtain ⟨rb, rc', ev, _, hB, hbl, s0⟩ := H.out.2.1.cell gE_len hx
                    rw [hOl] at ev
                    injection ev with q1 q2 q3
                    subst q1 q3
                    have HC : Hid (∀ V, OthT wr V → V.cell? ⟨rb, i * 2, none⟩ = some (.string x.key) ∧ V.cell? ⟨rb, i * 2 + 1, none⟩ = some (.int .i64 x.n)) := fun V hV => by
                      obtain ⟨_, _, e, _, _, _, t0⟩ := (H.out.2.1.oth hV).cell gE_len hx
                      injection e with q4 q5 q6
                      injection q4 with q4
                      injection q4 with q4 _ _
                      subst q4
                      exact ⟨(t0 0 _ rfl).1, (t0 1 _ rfl).1⟩
                    clear s0 q2
                    have hks : x.key.size ≤ 4096 := HSX.out.2 x (hpm.out.mem_iff.1 (List.mem_of_getElem? hx))
                    have HM : Hid (∀ Lb', Srt Lb' → Iv O Ot i (i + 1) Lb' → Iv O Ot (i + 1) (i + 1) (putL x.key x.n Lb')) := fun Lb' h1 h2 => h2.mine h1 HND.out hx
                    clear hx
                    obtain ⟨key, z⟩ := x
                    simp only at hks HM HC
                    obtain ⟨y1, y2⟩ := HC.out wr (fun _ _ _ _ _ => rfl)
                    by_cases ho : i < Ot.length
                    · have ho2 : (i : Int) < (Ot.length : Int) := by omega
                      have hox : Ot[i]? = some (Ot[i]'ho) := List.getElem?_eq_getElem _
                      generalize Ot[i]'ho = o at hox
                      obtain ⟨bo, oo, eo, co⟩ := HOt.out.one (g := fun s => .string s) hox
                      subst eo
                      have x1 := co _ H.out.1.bel
                      by_cases hs : o.size < 1000
                      · have hs2 : (o.size : Int) < 1000 := by omega
                        have cQ := H.out.1.putb o (-1) (by omega) (by have := hll.out; omega)
                        go_wp2_with fail
                        refine cQ.mono ?_
                        rintro e w4 ⟨rfl, b4, o4⟩
                        have Y : Hid (Tb W w4 ta 3 Lx tb 64 (putL o (-1) Lb) q Lx ∧ RowR w4 N (.slice (some ⟨rb, 0, none⟩) n rc) O ∧ Iv O Ot i (i + 1) (putL o (-1) Lb) ∧ (putL o (-1) Lb).length ≤ 2 * i + 1) := ⟨b4, H.out.2.1.oth o4, H.out.2.2.other H.out.1.swap.one.srt hox hs (-1), by have h1 := putL_succ o (-1) H.out.1.swap.one.srt; have h2 := hll.out; omega⟩
                        have HO : Hid (OthT wr w4) := o4
                        clear cQ b4 o4 hox co x1 y1 y2
                        as_aux_lemma =>
                          have cP := (Y.out.1.below (below_drew w4)).putb key z hks (by have := Y.out.2.2.2; omega)
                          have hS := HC.out (World.drew w4) (HO.out.trans (OthT.of_below (below_drew w4)))
                          have HR : Hid (∀ V, OthT (World.drew w4) V → RowR V N (.slice (some ⟨rb, 0, none⟩) n rc) O) := fun V hV => RowR.oth (Y.out.2.1.below' (below_drew w4)) hV
                          have HC2 : Hid (∀ V, OthT (World.drew w4) V → V.cell? ⟨rb, i * 2, none⟩ = some (.string key) ∧ V.cell? ⟨rb, i * 2 + 1, none⟩ = some (.int .i64 z)) := fun V hV => HC.out _ ((HO.out.trans (OthT.of_below (below_drew w4))).trans hV)
                          have HF : Hid (Iv O Ot (i + 1) (i + 1) (putL key z (putL o (-1) Lb)) ∧ (putL key z (putL o (-1) Lb)).length ≤ 2 * (i + 1)) := ⟨HM.out _ Y.out.1.swap.one.srt Y.out.2.2.1, by have h1 := putL_succ key z Y.out.1.swap.one.srt; have h2 := Y.out.2.2.2; omega⟩
                          go_wp2_with fail
                          apply wp_end (R := fun U => Tb W U ta 3 Lx tb 64 (putL key z (putL o (-1) Lb)) q Lx ∧ RowR U N (.slice (some ⟨rb, 0, none⟩) n rc) O)
                          case h =>
                            go_region_held3 (fun U => U.cell? ⟨rb, i * 2, none⟩ = some (.string key) ∧ U.cell? ⟨rb, i * 2 + 1, none⟩ = some (.int .i64 z)) (first | exact hS5 | exact hS | go_keep)
                              (first | (go_at_call 12; refine cP.mono ?_; rintro e w8 ⟨rfl, b5, o5⟩; have hS5 := HC2.out _ o5; have HR5 := HR.out _ o5))
                            all_goals exact EndQ.mk ⟨b5, HR5⟩
                          rintro w8 b8
                          have HB8 := (show Hid _ from b8)
                          clear cP hS b8
                          go_wp2_with fail
                          go_roundw
                          case rel => exact ⟨i + 1, _, by omega, by go_num, ⟨HB8.out.1, HB8.out.2, HF.out.1⟩, HF.out.2⟩
                          case measure => simp [Go.RowKit.intOf]; omega
                      · have hs2 : ¬ ((o.size : Int) < 1000) := by omega
                        have Y : Hid (Tb W wr ta 3 Lx tb 64 Lb q Lx ∧ RowR wr N (.slice (some ⟨rb, 0, none⟩) n rc) O ∧ Iv O Ot i (i + 1) Lb ∧ Lb.length ≤ 2 * i + 1) := ⟨H.out.1, H.out.2.1, H.out.2.2.skip, by have h2 := hll.out; omega⟩
                        have HO : Hid (OthT wr wr) := fun _ _ _ _ _ => rfl
                        clear hox co y1 y2
                        as_aux_lemma =>
                          have cP := (Y.out.1.below (below_drew wr)).putb key z hks (by have := Y.out.2.2.2; omega)
                          have hS := HC.out (World.drew wr) (HO.out.trans (OthT.of_below (below_drew wr)))
                          have HR : Hid (∀ V, OthT (World.drew wr) V → RowR V N (.slice (some ⟨rb, 0, none⟩) n rc) O) := fun V hV => RowR.oth (Y.out.2.1.below' (below_drew wr)) hV
                          have HC2 : Hid (∀ V, OthT (World.drew wr) V → V.cell? ⟨rb, i * 2, none⟩ = some (.string key) ∧ V.cell? ⟨rb, i * 2 + 1, none⟩ = some (.int .i64 z)) := fun V hV => HC.out _ ((HO.out.trans (OthT.of_below (below_drew wr))).trans hV)
                          have HF : Hid (Iv O Ot (i + 1) (i + 1) (putL key z Lb) ∧ (putL key z Lb).length ≤ 2 * (i + 1)) := ⟨HM.out _ Y.out.1.swap.one.srt Y.out.2.2.1, by have h1 := putL_succ key z Y.out.1.swap.one.srt; have h2 := Y.out.2.2.2; omega⟩
                          go_wp2_with fail
                          apply wp_end (R := fun U => Tb W U ta 3 Lx tb 64 (putL key z Lb) q Lx ∧ RowR U N (.slice (some ⟨rb, 0, none⟩) n rc) O)
                          case h =>
                            go_region_held3 (fun U => U.cell? ⟨rb, i * 2, none⟩ = some (.string key) ∧ U.cell? ⟨rb, i * 2 + 1, none⟩ = some (.int .i64 z)) (first | exact hS5 | exact hS | go_keep)
                              (first | (go_at_call 12; refine cP.mono ?_; rintro e w8 ⟨rfl, b5, o5⟩; have hS5 := HC2.out _ o5; have HR5 := HR.out _ o5))
                            all_goals exact EndQ.mk ⟨b5, HR5⟩
                          rintro w8 b8
                          have HB8 := (show Hid _ from b8)
                          clear cP hS b8
                          go_wp2_with fail
                          go_roundw
                          case rel => exact ⟨i + 1, _, by omega, by go_num, ⟨HB8.out.1, HB8.out.2, HF.out.1⟩, HF.out.2⟩
                          case measure => simp [Go.RowKit.intOf]; omega
                    · have ho2 : ¬ ((i : Int) < (Ot.length : Int)) := by omega
                      have Y : Hid (Tb W wr ta 3 Lx tb 64 Lb q Lx ∧ RowR wr N (.slice (some ⟨rb, 0, none⟩) n rc) O ∧ Iv O Ot i (i + 1) Lb ∧ Lb.length ≤ 2 * i + 1) := ⟨H.out.1, H.out.2.1, H.out.2.2.skip, by have h2 := hll.out; omega⟩
                      have HO : Hid (OthT wr wr) := fun _ _ _ _ _ => rfl
                      clear y1 y2
                      as_aux_lemma =>
                        have cP := (Y.out.1.below (below_drew wr)).putb key z hks (by have := Y.out.2.2.2; omega)
                        have hS := HC.out (World.drew wr) (HO.out.trans (OthT.of_below (below_drew wr)))
                        have HR : Hid (∀ V, OthT (World.drew wr) V → RowR V N (.slice (some ⟨rb, 0, none⟩) n rc) O) := fun V hV => RowR.oth (Y.out.2.1.below' (below_drew wr)) hV
                        have HC2 : Hid (∀ V, OthT (World.drew wr) V → V.cell? ⟨rb, i * 2, none⟩ = some (.string key) ∧ V.cell? ⟨rb, i * 2 + 1, none⟩ = some (.int .i64 z)) := fun V hV => HC.out _ ((HO.out.trans (OthT.of_below (below_drew wr))).trans hV)
                        have HF : Hid (Iv O Ot (i + 1) (i + 1) (putL key z Lb) ∧ (putL key z Lb).length ≤ 2 * (i + 1)) := ⟨HM.out _ Y.out.1.swap.one.srt Y.out.2.2.1, by have h1 := putL_succ key z Y.out.1.swap.one.srt; have h2 := Y.out.2.2.2; omega⟩
                        go_wp2_with fail
                        apply wp_end (R := fun U => Tb W U ta 3 Lx tb 64 (putL key z Lb) q Lx ∧ RowR U N (.slice (some ⟨rb, 0, none⟩) n rc) O)
                        case h =>
                          go_region_held3 (fun U => U.cell? ⟨rb, i * 2, none⟩ = some (.string key) ∧ U.cell? ⟨rb, i * 2 + 1, none⟩ = some (.int .i64 z)) (first | exact hS5 | exact hS | go_keep)
                            (first | (go_at_call 12; refine cP.mono ?_; rintro e w8 ⟨rfl, b5, o5⟩; have hS5 := HC2.out _ o5; have HR5 := HR.out _ o5))
                          all_goals exact EndQ.mk ⟨b5, HR5⟩
                        rintro w8 b8
                        have HB8 := (show Hid _ from b8)
                        clear cP hS b8
                        go_wp2_with fail
                        go_roundw
                        case rel => exact ⟨i + 1, _, by omega, by go_num, ⟨HB8.out.1, HB8.out.2, HF.out.1⟩, HF.out.2⟩
                        case measure => simp [Go.RowKit.intOf]; omega
                  · obtain rfl : n = i := by omega
                    have HJ : Hid (Tb W wr ta 3 Lx tb 64 Lb q Lx ∧ Jv Lx Ot n 0 Lb ∧ Lb.length ≤ 2 * n + 0) := ⟨H.out.1, H.out.2.2.end hOl hpm.out, hll.out⟩
                    clear H hll hlt
                    go_wp2_with fail
                    go_loopw [18] (fun si wr => ∃ (i : Nat) (Lb : List Ent), i ≤ Ot.length ∧ si = .int .i64 (i : Int) ∧ Hid (Tb W wr ta 3 Lx tb 64 Lb q Lx ∧ Jv Lx Ot n i Lb ∧ Lb.length ≤ 2 * n + i)) (fun si _ => Ot.length - (Go.RowKit.intOf si).toNat)
                    case atStart => exact ⟨0, Lb, Nat.zero_le _, rfl, HJ.out⟩
                    case round =>
                      clear HJ hi
                      obtain ⟨i, Lc, hi, rfl, H⟩ := hrel
                      by_cases ho : i < Ot.length
                      · have ho2 : (i : Int) < (Ot.length : Int) := by omega
                        by_cases hin : i < n
                        · have hin2 : (i : Int) < (n : Int) := by omega
                          have hox : Ot[i]? = some (Ot[i]'ho) := List.getElem?_eq_getElem _
                          generalize Ot[i]'ho = o at hox
                          obtain ⟨bo, oo, eo, co⟩ := HOt.out.one (g := fun s => .string s) hox
                          subst eo
                          have x1 := co _ H.out.1.bel
                          by_cases hs : o.size < 1000
                          · have hs2 : (o.size : Int) < 1000 := by omega
                            have hs3 : ¬ ((1000 : Int) ≤ (o.size : Int)) := by omega
                            have cG := H.out.1.one.rget o
                            cases hh : hasL o Lx
                            · have hsr := H.out.1.swap.one.srt
                              have HF : Hid (Jv Lx Ot n (i + 1) (delL o Lc) ∧ (delL o Lc).length ≤ 2 * n + (i + 1)) := ⟨H.out.2.1.del hsr HSX.out.1 hox hh, by have h1 := delL_le o hsr; have h2 := H.out.2.2; omega⟩
                              have cD := H.out.1.delb o
                              rw [hh] at cG
                              clear hsr
                              go_wp2_with fail
                              refine cG.mono ?_
                              rintro e w4 ⟨rfl, h4⟩
                              rw [h4]
                              clear h4 w4 cG
                              go_wp2_with fail
                              refine cD.mono ?_
                              rintro e w5 ⟨rfl, b5, o5⟩
                              have HB5 := (show Hid _ from b5)
                              clear b5 o5 cD x1
                              go_wp2_with fail
                              go_roundw
                              case rel => exact ⟨i + 1, _, by omega, by go_num, HB5.out, HF.out.1, HF.out.2⟩
                              case measure => simp [Go.RowKit.intOf]; omega
                            · have hsr := H.out.1.swap.one.srt
                              have HF : Hid (Jv Lx Ot n (i + 1) (putL o (getL o Lx) Lc) ∧ (putL o (getL o Lx) Lc).length ≤ 2 * n + (i + 1)) := ⟨H.out.2.1.set hsr HSX.out.1 hox hh, by have h1 := putL_succ o (getL o Lx) hsr; have h2 := H.out.2.2; omega⟩
                              have cD := H.out.1.putb o (getL o Lx) (by omega) (by have h2 := H.out.2.2; omega)
                              rw [hh] at cG
                              generalize getL o Lx = zz at *
                              clear hsr
                              go_wp2_with fail
                              refine cG.mono ?_
                              rintro e w4 ⟨rfl, h4⟩
                              rw [h4]
                              clear h4 w4 cG
                              go_wp2_with fail
                              refine cD.mono ?_
                              rintro e w5 ⟨rfl, b5, o5⟩
                              have HB5 := (show Hid _ from b5)
                              clear b5 o5 cD x1
                              go_wp2_with fail
                              go_roundw
                              case rel => exact ⟨i + 1, _, by omega, by go_num, HB5.out, HF.out.1, HF.out.2⟩
                              case measure => simp [Go.RowKit.intOf]; omega
                          · have hs2 : ¬ ((o.size : Int) < 1000) := by omega
                            have hs3 : (1000 : Int) ≤ (o.size : Int) := by omega
                            have HF : Hid (Tb W wr ta 3 Lx tb 64 Lc q Lx ∧ Jv Lx Ot n (i + 1) Lc ∧ Lc.length ≤ 2 * n + (i + 1)) := ⟨H.out.1, H.out.2.1.skip hox hs, by have h2 := H.out.2.2; omega⟩
                            go_wp2_with fail
                            go_roundw
                            case rel => exact ⟨i + 1, _, by omega, by go_num, HF.out⟩
                            case measure => simp [Go.RowKit.intOf]; omega
                        · have hin2 : ¬ ((i : Int) < (n : Int)) := by omega
                          as_aux_lemma =>
                            obtain rfl : Lx = Lc := (H.out.2.1.end H.out.1.swap.one.srt HSX.out.1 (by omega)).symm
                            have HB9 : Hid (Tb W wr ta 3 Lx tb 64 Lx q Lx) := H.out.1
                            clear H
                            obtain ⟨M9, v9, t9, r9⟩ := HB9.out.one.ex
                            obtain ⟨ua, uc, eu, _, _⟩ := r9.row.len
                            rw [HN.out] at eu
                            have CE : Hid (∀ V, Below wr.heap.size wr V → V.cell? ⟨q, 0, none⟩ = some (.slice ua n uc)) := fun V hV => by
                              have h1 := (r9.below hV).top
                              rw [(cell_obj (j := 0) h1).1, ← eu]
                              rfl
                            have HR9 : Hid (RowR wr W.heap.size (.slice ua n uc) Lx) := by rw [← eu]; exact r9.row
                            have hRg : ∀ V, Below wr.heap.size wr V → Calls Try.prog 21 #[.pointer (some ⟨ta, 0, none⟩), .string ⟨#[]⟩, .string ⟨#[]⟩, .int .i64 4096] V fun e w' => ∃ v, e = .returned v ∧ RowE w' V.heap.size v Lx ∧ Below V.heap.size V w' := fun V hV => by
                              have h1 := (HB9.out.one.below hV).range ⟨#[]⟩ ⟨#[]⟩ 4096
                              rw [rg_empty, tk_all 4096 _ [] (by have := HN.out; simp; omega), List.nil_append] at h1
                              exact h1.mono fun e w' ⟨v, he, row, _, h2⟩ => ⟨v, he, row, h2⟩
                            have hRh : ∀ V, Below wr.heap.size wr V → Calls Try.prog 21 #[.pointer (some ⟨tb, 0, none⟩), .string ⟨#[]⟩, .string ⟨#[]⟩, .int .i64 4096] V fun e w' => ∃ v, e = .returned v ∧ RowE w' V.heap.size v Lx ∧ Below V.heap.size V w' := fun V hV => by
                              have h1 := (HB9.out.swap.one.below hV).range ⟨#[]⟩ ⟨#[]⟩ 4096
                              rw [rg_empty, tk_all 4096 _ [] (by have := HN.out; simp; omega), List.nil_append] at h1
                              exact h1.mono fun e w' ⟨v, he, row, _, h2⟩ => ⟨v, he, row, h2⟩
                            clear r9 t9 eu
                            go_wp2_with fail
                            refine anyL_begin (S := fun V => Below wr.heap.size wr V) (n := 19) (by kernel_rfl) (below_drew wr) (fun hHeld => ?_)
                            refine takeL 0 214 (v := .pointer (some ⟨ta, 0, none⟩)) rfl rfl (by kernel_rfl) (by kernel_rfl) (by kernel_rfl) (by kernel_rfl) (fun _ _ _ h => h) (Or.inl ⟨by rfl, by (intro W hSw; have s1 := CE.out W hSw; go_simp)⟩) hHeld ?_
                            simp only [List.setIfInBounds_toArray, List.set_cons_zero, List.set_cons_succ]
                            refine takeL 2 216 (v := .pointer (some ⟨q, 0, none⟩)) rfl rfl (by kernel_rfl) (by kernel_rfl) (by kernel_rfl) (by kernel_rfl) (fun _ _ _ h => h) (Or.inl ⟨by rfl, by (intro W hSw; have s1 := CE.out W hSw; go_simp)⟩) hHeld ?_
                            simp only [List.setIfInBounds_toArray, List.set_cons_zero, List.set_cons_succ]
                            refine takeL 3 217 (v := .pointer (some ⟨q, 0, none⟩)) rfl rfl (by kernel_rfl) (by kernel_rfl) (by kernel_rfl) (by kernel_rfl) (fun _ _ _ h => h) (Or.inl ⟨by rfl, by (intro W hSw; have s1 := CE.out W hSw; go_simp)⟩) hHeld ?_
                            simp only [List.setIfInBounds_toArray, List.set_cons_zero, List.set_cons_succ]
                            refine takeL 4 218 (v := .pointer (some ⟨q, 0, none⟩)) rfl rfl (by kernel_rfl) (by kernel_rfl) (by kernel_rfl) (by kernel_rfl) (fun _ _ _ h => h) (Or.inl ⟨by rfl, by (intro W hSw; have s1 := CE.out W hSw; go_simp)⟩) hHeld ?_
                            simp only [List.setIfInBounds_toArray, List.set_cons_zero, List.set_cons_succ]
                            refine takeL 5 219 (v := .slice ua n uc) rfl rfl (by kernel_rfl) (by kernel_rfl) (by kernel_rfl) (by kernel_rfl) (fun _ _ _ h => h) (Or.inl ⟨by rfl, by (intro W hSw; have s1 := CE.out W hSw; go_simp)⟩) hHeld ?_
                            simp only [List.setIfInBounds_toArray, List.set_cons_zero, List.set_cons_succ]
                            refine anyL_one 1 (by kernel_rfl) (upL rfl (fun K hK => ?_))
                            go_simp
                            refine (hRg _ hHeld).mono ?_
                            rintro e w6 ⟨v6, rfl, row6, h6⟩
                            have hb6 := below2 hHeld h6
                            have HR6 := (show Hid _ from row6)
                            clear row6 h6 hRg
                            go_simp
                            refine hK.out _ _ (fun _ => hb6) (fun hHeld0 => ?_)
                            have hHeld := hHeld0 (by decide)
                            clear hHeld0 hK K
                            (try simp only [Act.put, List.setIfInBounds_toArray, List.set_cons_zero, List.set_cons_succ])
                            refine anyL_one 6 (by kernel_rfl) (upL rfl (fun K hK => ?_))
                            go_simp
                            refine (same_any HR6.out (HR9.out.below' hHeld) (by have := HN.out; omega)).mono ?_
                            rintro e w7 ⟨rfl, h7⟩
                            have hb7 := below2 hHeld h7
                            clear h7
                            go_simp
                            refine hK.out _ _ (fun _ => hb7) (fun hHeld0 => ?_)
                            have hHeld := hHeld0 (by decide)
                            clear hHeld0 hK K
                            (try simp only [Act.put, List.setIfInBounds_toArray, List.set_cons_zero, List.set_cons_succ])
                            refine anyL_one 7 (by kernel_rfl) (upL rfl (fun K hK => ?_))
                            go_simp
                            refine hK.out _ _ (fun _ => hHeld) (fun hHeld0 => ?_)
                            have hHeld := hHeld0 (by decide)
                            clear hHeld0 hK K
                            (try simp only [Act.put, List.setIfInBounds_toArray, List.set_cons_zero, List.set_cons_succ])
                            refine takeL 8 222 (v := .pointer (some ⟨tb, 0, none⟩)) rfl rfl (by kernel_rfl) (by kernel_rfl) (by kernel_rfl) (by kernel_rfl) (fun _ _ _ h => h) (Or.inl ⟨by rfl, by (intro W hSw; have s1 := CE.out W hSw; go_simp)⟩) hHeld ?_
                            simp only [List.setIfInBounds_toArray, List.set_cons_zero, List.set_cons_succ]
                            refine takeL 10 224 (v := .pointer (some ⟨q, 0, none⟩)) rfl rfl (by kernel_rfl) (by kernel_rfl) (by kernel_rfl) (by kernel_rfl) (fun _ _ _ h => h) (Or.inl ⟨by rfl, by (intro W hSw; have s1 := CE.out W hSw; go_simp)⟩) hHeld ?_
                            simp only [List.setIfInBounds_toArray, List.set_cons_zero, List.set_cons_succ]
                            refine takeL 11 225 (v := .pointer (some ⟨q, 0, none⟩)) rfl rfl (by kernel_rfl) (by kernel_rfl) (by kernel_rfl) (by kernel_rfl) (fun _ _ _ h => h) (Or.inl ⟨by rfl, by (intro W hSw; have s1 := CE.out W hSw; go_simp)⟩) hHeld ?_
                            simp only [List.setIfInBounds_toArray, List.set_cons_zero, List.set_cons_succ]
                            refine takeL 12 226 (v := .pointer (some ⟨q, 0, none⟩)) rfl rfl (by kernel_rfl) (by kernel_rfl) (by kernel_rfl) (by kernel_rfl) (fun _ _ _ h => h) (Or.inl ⟨by rfl, by (intro W hSw; have s1 := CE.out W hSw; go_simp)⟩) hHeld ?_
                            simp only [List.setIfInBounds_toArray, List.set_cons_zero, List.set_cons_succ]
                            refine takeL 13 227 (v := .slice ua n uc) rfl rfl (by kernel_rfl) (by kernel_rfl) (by kernel_rfl) (by kernel_rfl) (fun _ _ _ h => h) (Or.inl ⟨by rfl, by (intro W hSw; have s1 := CE.out W hSw; go_simp)⟩) hHeld ?_
                            simp only [List.setIfInBounds_toArray, List.set_cons_zero, List.set_cons_succ]
                            refine anyL_one 9 (by kernel_rfl) (upL rfl (fun K hK => ?_))
                            go_simp
                            refine (hRh _ hHeld).mono ?_
                            rintro e w8 ⟨v8, rfl, row8, h8⟩
                            have hb8 := below2 hHeld h8
                            have HR8 := (show Hid _ from row8)
                            clear row8 h8 hRh
                            go_simp
                            refine hK.out _ _ (fun _ => hb8) (fun hHeld0 => ?_)
                            have hHeld := hHeld0 (by decide)
                            clear hHeld0 hK K
                            (try simp only [Act.put, List.setIfInBounds_toArray, List.set_cons_zero, List.set_cons_succ])
                            refine anyL_one 14 (by kernel_rfl) (upL rfl (fun K hK => ?_))
                            go_simp
                            refine (same_any HR8.out (HR9.out.below' hHeld) (by have := HN.out; omega)).mono ?_
                            rintro e w9 ⟨rfl, h9⟩
                            have hb9 := below2 hHeld h9
                            clear h9
                            go_simp
                            refine hK.out _ _ (fun _ => hb9) (fun hHeld0 => ?_)
                            have hHeld := hHeld0 (by decide)
                            clear hHeld0 hK K
                            (try simp only [Act.put, List.setIfInBounds_toArray, List.set_cons_zero, List.set_cons_succ])
                            refine anyL_one 15 (by kernel_rfl) (upL rfl (fun K hK => ?_))
                            go_simp
                            refine hK.out _ _ (fun _ => hHeld) (fun hHeld0 => ?_)
                            have hHeld := hHeld0 (by decide)
                            clear hHeld0 hK K
                            (try simp only [Act.put, List.setIfInBounds_toArray, List.set_cons_zero, List.set_cons_succ])
                            refine anyL_one 16 (by kernel_rfl) (upL rfl (fun K hK => ?_))
                            go_simp
                            refine hK.out _ _ (fun _ => hHeld) (fun hHeld0 => ?_)
                            have hHeld := hHeld0 (by decide)
                            clear hHeld0 hK K
                            (try simp only [Act.put, List.setIfInBounds_toArray, List.set_cons_zero, List.set_cons_succ])
                            refine anyL_one 17 (by kernel_rfl) (upL rfl (fun K hK => ?_))
                            go_simp
                            refine (wakes_any _).mono ?_
                            rintro e w10 ⟨rfl, h10⟩
                            have hb10 := below2 hHeld h10
                            clear h10
                            go_simp
                            refine hK.out _ _ (fun _ => hb10) (fun hHeld0 => ?_)
                            have hHeld := hHeld0 (by decide)
                            clear hHeld0 hK K
                            (try simp only [Act.put, List.setIfInBounds_toArray, List.set_cons_zero, List.set_cons_succ])
                            refine anyL_one 18 (by kernel_rfl) (upL rfl (fun K hK => ?_))
                            go_simp
                            refine hK.out _ _ (fun _ => hHeld) (fun hHeld0 => ?_)
                            have hHeld := hHeld0 (by decide)
                            clear hHeld0 hK K
                            (try simp only [Act.put, List.setIfInBounds_toArray, List.set_cons_zero, List.set_cons_succ])
                            refine anyL_one 19 (by kernel_rfl) (upL rfl (fun K hK => ?_))
                            go_simp
                            refine hK.out _ _ (fun q => absurd rfl q) (fun _ => ?_)
                            clear hK K
                            (try simp only [Act.put, List.setIfInBounds_toArray, List.set_cons_zero, List.set_cons_succ])
                            refine anyL_done (by kernel_rfl) ?_ _
                            go_wp2_with fail
                            go_ret
                            exact ⟨rfl, (HB9.out.below hHeld).bel⟩
                      · have ho2 : ¬ ((i : Int) < (Ot.length : Int)) := by omega
                        as_aux_lemma =>
                          obtain rfl : Lx = Lc := (H.out.2.1.end H.out.1.swap.one.srt HSX.out.1 (by omega)).symm
                          have HB9 : Hid (Tb W wr ta 3 Lx tb 64 Lx q Lx) := H.out.1
                          clear H
                          obtain ⟨M9, v9, t9, r9⟩ := HB9.out.one.ex
                          obtain ⟨ua, uc, eu, _, _⟩ := r9.row.len
                          rw [HN.out] at eu
                          have CE : Hid (∀ V, Below wr.heap.size wr V → V.cell? ⟨q, 0, none⟩ = some (.slice ua n uc)) := fun V hV => by
                            have h1 := (r9.below hV).top
                            rw [(cell_obj (j := 0) h1).1, ← eu]
                            rfl
                          have HR9 : Hid (RowR wr W.heap.size (.slice ua n uc) Lx) := by rw [← eu]; exact r9.row
                          have hRg : ∀ V, Below wr.heap.size wr V → Calls Try.prog 21 #[.pointer (some ⟨ta, 0, none⟩), .string ⟨#[]⟩, .string ⟨#[]⟩, .int .i64 4096] V fun e w' => ∃ v, e = .returned v ∧ RowE w' V.heap.size v Lx ∧ Below V.heap.size V w' := fun V hV => by
                            have h1 := (HB9.out.one.below hV).range ⟨#[]⟩ ⟨#[]⟩ 4096
                            rw [rg_empty, tk_all 4096 _ [] (by have := HN.out; simp; omega), List.nil_append] at h1
                            exact h1.mono fun e w' ⟨v, he, row, _, h2⟩ => ⟨v, he, row, h2⟩
                          have hRh : ∀ V, Below wr.heap.size wr V → Calls Try.prog 21 #[.pointer (some ⟨tb, 0, none⟩), .string ⟨#[]⟩, .string ⟨#[]⟩, .int .i64 4096] V fun e w' => ∃ v, e = .returned v ∧ RowE w' V.heap.size v Lx ∧ Below V.heap.size V w' := fun V hV => by
                            have h1 := (HB9.out.swap.one.below hV).range ⟨#[]⟩ ⟨#[]⟩ 4096
                            rw [rg_empty, tk_all 4096 _ [] (by have := HN.out; simp; omega), List.nil_append] at h1
                            exact h1.mono fun e w' ⟨v, he, row, _, h2⟩ => ⟨v, he, row, h2⟩
                          clear r9 t9 eu
                          go_wp2_with fail
                          refine anyL_begin (S := fun V => Below wr.heap.size wr V) (n := 19) (by kernel_rfl) (below_drew wr) (fun hHeld => ?_)
                          refine takeL 0 214 (v := .pointer (some ⟨ta, 0, none⟩)) rfl rfl (by kernel_rfl) (by kernel_rfl) (by kernel_rfl) (by kernel_rfl) (fun _ _ _ h => h) (Or.inl ⟨by rfl, by (intro W hSw; have s1 := CE.out W hSw; go_simp)⟩) hHeld ?_
                          simp only [List.setIfInBounds_toArray, List.set_cons_zero, List.set_cons_succ]
                          refine takeL 2 216 (v := .pointer (some ⟨q, 0, none⟩)) rfl rfl (by kernel_rfl) (by kernel_rfl) (by kernel_rfl) (by kernel_rfl) (fun _ _ _ h => h) (Or.inl ⟨by rfl, by (intro W hSw; have s1 := CE.out W hSw; go_simp)⟩) hHeld ?_
                          simp only [List.setIfInBounds_toArray, List.set_cons_zero, List.set_cons_succ]
                          refine takeL 3 217 (v := .pointer (some ⟨q, 0, none⟩)) rfl rfl (by kernel_rfl) (by kernel_rfl) (by kernel_rfl) (by kernel_rfl) (fun _ _ _ h => h) (Or.inl ⟨by rfl, by (intro W hSw; have s1 := CE.out W hSw; go_simp)⟩) hHeld ?_
                          simp only [List.setIfInBounds_toArray, List.set_cons_zero, List.set_cons_succ]
                          refine takeL 4 218 (v := .pointer (some ⟨q, 0, none⟩)) rfl rfl (by kernel_rfl) (by kernel_rfl) (by kernel_rfl) (by kernel_rfl) (fun _ _ _ h => h) (Or.inl ⟨by rfl, by (intro W hSw; have s1 := CE.out W hSw; go_simp)⟩) hHeld ?_
                          simp only [List.setIfInBounds_toArray, List.set_cons_zero, List.set_cons_succ]
                          refine takeL 5 219 (v := .slice ua n uc) rfl rfl (by kernel_rfl) (by kernel_rfl) (by kernel_rfl) (by kernel_rfl) (fun _ _ _ h => h) (Or.inl ⟨by rfl, by (intro W hSw; have s1 := CE.out W hSw; go_simp)⟩) hHeld ?_
                          simp only [List.setIfInBounds_toArray, List.set_cons_zero, List.set_cons_succ]
                          refine anyL_one 1 (by kernel_rfl) (upL rfl (fun K hK => ?_))
                          go_simp
                          refine (hRg _ hHeld).mono ?_
                          rintro e w6 ⟨v6, rfl, row6, h6⟩
                          have hb6 := below2 hHeld h6
                          have HR6 := (show Hid _ from row6)
                          clear row6 h6 hRg
                          go_simp
                          refine hK.out _ _ (fun _ => hb6) (fun hHeld0 => ?_)
                          have hHeld := hHeld0 (by decide)
                          clear hHeld0 hK K
                          (try simp only [Act.put, List.setIfInBounds_toArray, List.set_cons_zero, List.set_cons_succ])
                          refine anyL_one 6 (by kernel_rfl) (upL rfl (fun K hK => ?_))
                          go_simp
                          refine (same_any HR6.out (HR9.out.below' hHeld) (by have := HN.out; omega)).mono ?_
                          rintro e w7 ⟨rfl, h7⟩
                          have hb7 := below2 hHeld h7
                          clear h7
                          go_simp
                          refine hK.out _ _ (fun _ => hb7) (fun hHeld0 => ?_)
                          have hHeld := hHeld0 (by decide)
                          clear hHeld0 hK K
                          (try simp only [Act.put, List.setIfInBounds_toArray, List.set_cons_zero, List.set_cons_succ])
                          refine anyL_one 7 (by kernel_rfl) (upL rfl (fun K hK => ?_))
                          go_simp
                          refine hK.out _ _ (fun _ => hHeld) (fun hHeld0 => ?_)
                          have hHeld := hHeld0 (by decide)
                          clear hHeld0 hK K
                          (try simp only [Act.put, List.setIfInBounds_toArray, List.set_cons_zero, List.set_cons_succ])
                          refine takeL 8 222 (v := .pointer (some ⟨tb, 0, none⟩)) rfl rfl (by kernel_rfl) (by kernel_rfl) (by kernel_rfl) (by kernel_rfl) (fun _ _ _ h => h) (Or.inl ⟨by rfl, by (intro W hSw; have s1 := CE.out W hSw; go_simp)⟩) hHeld ?_
                          simp only [List.setIfInBounds_toArray, List.set_cons_zero, List.set_cons_succ]
                          refine takeL 10 224 (v := .pointer (some ⟨q, 0, none⟩)) rfl rfl (by kernel_rfl) (by kernel_rfl) (by kernel_rfl) (by kernel_rfl) (fun _ _ _ h => h) (Or.inl ⟨by rfl, by (intro W hSw; have s1 := CE.out W hSw; go_simp)⟩) hHeld ?_
                          simp only [List.setIfInBounds_toArray, List.set_cons_zero, List.set_cons_succ]
                          refine takeL 11 225 (v := .pointer (some ⟨q, 0, none⟩)) rfl rfl (by kernel_rfl) (by kernel_rfl) (by kernel_rfl) (by kernel_rfl) (fun _ _ _ h => h) (Or.inl ⟨by rfl, by (intro W hSw; have s1 := CE.out W hSw; go_simp)⟩) hHeld ?_
                          simp only [List.setIfInBounds_toArray, List.set_cons_zero, List.set_cons_succ]
                          refine takeL 12 226 (v := .pointer (some ⟨q, 0, none⟩)) rfl rfl (by kernel_rfl) (by kernel_rfl) (by kernel_rfl) (by kernel_rfl) (fun _ _ _ h => h) (Or.inl ⟨by rfl, by (intro W hSw; have s1 := CE.out W hSw; go_simp)⟩) hHeld ?_
                          simp only [List.setIfInBounds_toArray, List.set_cons_zero, List.set_cons_succ]
                          refine takeL 13 227 (v := .slice ua n uc) rfl rfl (by kernel_rfl) (by kernel_rfl) (by kernel_rfl) (by kernel_rfl) (fun _ _ _ h => h) (Or.inl ⟨by rfl, by (intro W hSw; have s1 := CE.out W hSw; go_simp)⟩) hHeld ?_
                          simp only [List.setIfInBounds_toArray, List.set_cons_zero, List.set_cons_succ]
                          refine anyL_one 9 (by kernel_rfl) (upL rfl (fun K hK => ?_))
                          go_simp
                          refine (hRh _ hHeld).mono ?_
                          rintro e w8 ⟨v8, rfl, row8, h8⟩
                          have hb8 := below2 hHeld h8
                          have HR8 := (show Hid _ from row8)
                          clear row8 h8 hRh
                          go_simp
                          refine hK.out _ _ (fun _ => hb8) (fun hHeld0 => ?_)
                          have hHeld := hHeld0 (by decide)
                          clear hHeld0 hK K
                          (try simp only [Act.put, List.setIfInBounds_toArray, List.set_cons_zero, List.set_cons_succ])
                          refine anyL_one 14 (by kernel_rfl) (upL rfl (fun K hK => ?_))
                          go_simp
                          refine (same_any HR8.out (HR9.out.below' hHeld) (by have := HN.out; omega)).mono ?_
                          rintro e w9 ⟨rfl, h9⟩
                          have hb9 := below2 hHeld h9
                          clear h9
                          go_simp
                          refine hK.out _ _ (fun _ => hb9) (fun hHeld0 => ?_)
                          have hHeld := hHeld0 (by decide)
                          clear hHeld0 hK K
                          (try simp only [Act.put, List.setIfInBounds_toArray, List.set_cons_zero, List.set_cons_succ])
                          refine anyL_one 15 (by kernel_rfl) (upL rfl (fun K hK => ?_))
                          go_simp
                          refine hK.out _ _ (fun _ => hHeld) (fun hHeld0 => ?_)
                          have hHeld := hHeld0 (by decide)
                          clear hHeld0 hK K
                          (try simp only [Act.put, List.setIfInBounds_toArray, List.set_cons_zero, List.set_cons_succ])
                          refine anyL_one 16 (by kernel_rfl) (upL rfl (fun K hK => ?_))
                          go_simp
                          refine hK.out _ _ (fun _ => hHeld) (fun hHeld0 => ?_)
                          have hHeld := hHeld0 (by decide)
                          clear hHeld0 hK K
                          (try simp only [Act.put, List.setIfInBounds_toArray, List.set_cons_zero, List.set_cons_succ])
                          refine anyL_one 17 (by kernel_rfl) (upL rfl (fun K hK => ?_))
                          go_simp
                          refine (wakes_any _).mono ?_
                          rintro e w10 ⟨rfl, h10⟩
                          have hb10 := below2 hHeld h10
                          clear h10
                          go_simp
                          refine hK.out _ _ (fun _ => hb10) (fun hHeld0 => ?_)
                          have hHeld := hHeld0 (by decide)
                          clear hHeld0 hK K
                          (try simp only [Act.put, List.setIfInBounds_toArray, List.set_cons_zero, List.set_cons_succ])
                          refine anyL_one 18 (by kernel_rfl) (upL rfl (fun K hK => ?_))
                          go_simp
                          refine hK.out _ _ (fun _ => hHeld) (fun hHeld0 => ?_)
                          have hHeld := hHeld0 (by decide)
                          clear hHeld0 hK K
                          (try simp only [Act.put, List.setIfInBounds_toArray, List.set_cons_zero, List.set_cons_succ])
                          refine anyL_one 19 (by kernel_rfl) (upL rfl (fun K hK => ?_))
                          go_simp
                          refine hK.out _ _ (fun q => absurd rfl q) (fun _ => ?_)
                          clear hK K
                          (try simp only [Act.put, List.setIfInBounds_toArray, List.set_cons_zero, List.set_cons_succ])
                          refine anyL_done (by kernel_rfl) ?_ _
                          go_wp2_with fail
                          go_ret
                          exact ⟨rfl, (HB9.out.below hHeld).bel⟩
            · have i2 : ¬ ((0 : Int) < (n : Int)) := by omega
              as_aux_lemma =>
                have HL3 : Hid (Tb W wr ta 3 Lx tb 64 [] q Lx ∧ RowR wr N (.slice ra n rc) O) := ⟨hr.out, hro.out⟩
                have HND : Hid ((O.map Ent.key).Nodup) := (hpm.out.map Ent.key).nodup_iff.2 (srt_nodup HSX.out.1)
                clear hr hro hbe
                go_wp2_with fail
                go_loopw [17] (fun si wr => ∃ (i : Nat) (Lb : List Ent), i ≤ n ∧ si = .int .i64 (i : Int) ∧ Hid (Tb W wr ta 3 Lx tb 64 Lb q Lx ∧ RowR wr N (.slice ra n rc) O ∧ Iv O Ot i i Lb) ∧ Hid (Lb.length ≤ 2 * i)) (fun si _ => n - (Go.RowKit.intOf si).toNat)
                case atStart => exact ⟨0, [], Nat.zero_le _, rfl, ⟨HL3.out.1, HL3.out.2, Iv.start O Ot⟩, Nat.le_refl _⟩
                case round =>
                  clear HL3 hi
                  obtain ⟨i, Lb, hi, rfl, H, hll⟩ := hrel
                  by_cases hlt : i < n
                  · have hlt2 : (i : Int) < (n : Int) := by omega
                    have hx : O[i]? = some (O[i]'(by omega)) := List.getElem?_eq_getElem _
                    generalize O[i]'(by omega) = x at hx
                    obtain ⟨rb, rc', ev, _, hB, hbl, s0⟩ := H.out.2.1.cell gE_len hx
                    rw [hOl] at ev
                    injection ev with q1 q2 q3
                    subst q1 q3
                    have HC : Hid (∀ V, OthT wr V → V.cell? ⟨rb, i * 2, none⟩ = some (.string x.key) ∧ V.cell? ⟨rb, i * 2 + 1, none⟩ = some (.int .i64 x.n)) := fun V hV => by
                      obtain ⟨_, _, e, _, _, _, t0⟩ := (H.out.2.1.oth hV).cell gE_len hx
                      injection e with q4 q5 q6
                      injection q4 with q4
                      injection q4 with q4 _ _
                      subst q4
                      exact ⟨(t0 0 _ rfl).1, (t0 1 _ rfl).1⟩
                    clear s0 q2
                    have hks : x.key.size ≤ 4096 := HSX.out.2 x (hpm.out.mem_iff.1 (List.mem_of_getElem? hx))
                    have HM : Hid (∀ Lb', Srt Lb' → Iv O Ot i (i + 1) Lb' → Iv O Ot (i + 1) (i + 1) (putL x.key x.n Lb')) := fun Lb' h1 h2 => h2.mine h1 HND.out hx
                    clear hx
                    obtain ⟨key, z⟩ := x
                    simp only at hks HM HC
                    obtain ⟨y1, y2⟩ := HC.out wr (fun _ _ _ _ _ => rfl)
                    by_cases ho : i < Ot.length
                    · have ho2 : (i : Int) < (Ot.length : Int) := by omega
                      have hox : Ot[i]? = some (Ot[i]'ho) := List.getElem?_eq_getElem _
                      generalize Ot[i]'ho = o at hox
                      obtain ⟨bo, oo, eo, co⟩ := HOt.out.one (g := fun s => .string s) hox
                      subst eo
                      have x1 := co _ H.out.1.bel
                      by_cases hs : o.size < 1000
                      · have hs2 : (o.size : Int) < 1000 := by omega
                        have cQ := H.out.1.putb o (-1) (by omega) (by have := hll.out; omega)
                        go_wp2_with fail
                        refine cQ.mono ?_
                        rintro e w4 ⟨rfl, b4, o4⟩
                        have Y : Hid (Tb W w4 ta 3 Lx tb 64 (putL o (-1) Lb) q Lx ∧ RowR w4 N (.slice (some ⟨rb, 0, none⟩) n rc) O ∧ Iv O Ot i (i + 1) (putL o (-1) Lb) ∧ (putL o (-1) Lb).length ≤ 2 * i + 1) := ⟨b4, H.out.2.1.oth o4, H.out.2.2.other H.out.1.swap.one.srt hox hs (-1), by have h1 := putL_succ o (-1) H.out.1.swap.one.srt; have h2 := hll.out; omega⟩
                        have HO : Hid (OthT wr w4) := o4
                        clear cQ b4 o4 hox co x1 y1 y2
                        as_aux_lemma =>
                          have cP := (Y.out.1.below (below_drew w4)).putb key z hks (by have := Y.out.2.2.2; omega)
                          have hS := HC.out (World.drew w4) (HO.out.trans (OthT.of_below (below_drew w4)))
                          have HR : Hid (∀ V, OthT (World.drew w4) V → RowR V N (.slice (some ⟨rb, 0, none⟩) n rc) O) := fun V hV => RowR.oth (Y.out.2.1.below' (below_drew w4)) hV
                          have HC2 : Hid (∀ V, OthT (World.drew w4) V → V.cell? ⟨rb, i * 2, none⟩ = some (.string key) ∧ V.cell? ⟨rb, i * 2 + 1, none⟩ = some (.int .i64 z)) := fun V hV => HC.out _ ((HO.out.trans (OthT.of_below (below_drew w4))).trans hV)
                          have HF : Hid (Iv O Ot (i + 1) (i + 1) (putL key z (putL o (-1) Lb)) ∧ (putL key z (putL o (-1) Lb)).length ≤ 2 * (i + 1)) := ⟨HM.out _ Y.out.1.swap.one.srt Y.out.2.2.1, by have h1 := putL_succ key z Y.out.1.swap.one.srt; have h2 := Y.out.2.2.2; omega⟩
                          go_wp2_with fail
                          apply wp_end (R := fun U => Tb W U ta 3 Lx tb 64 (putL key z (putL o (-1) Lb)) q Lx ∧ RowR U N (.slice (some ⟨rb, 0, none⟩) n rc) O)
                          case h =>
                            go_region_held3 (fun U => U.cell? ⟨rb, i * 2, none⟩ = some (.string key) ∧ U.cell? ⟨rb, i * 2 + 1, none⟩ = some (.int .i64 z)) (first | exact hS5 | exact hS | go_keep)
                              (first | (go_at_call 12; refine cP.mono ?_; rintro e w8 ⟨rfl, b5, o5⟩; have hS5 := HC2.out _ o5; have HR5 := HR.out _ o5))
                            all_goals exact EndQ.mk ⟨b5, HR5⟩
                          rintro w8 b8
                          have HB8 := (show Hid _ from b8)
                          clear cP hS b8
                          go_wp2_with fail
                          go_roundw
                          case rel => exact ⟨i + 1, _, by omega, by go_num, ⟨HB8.out.1, HB8.out.2, HF.out.1⟩, HF.out.2⟩
                          case measure => simp [Go.RowKit.intOf]; omega
                      · have hs2 : ¬ ((o.size : Int) < 1000) := by omega
                        have Y : Hid (Tb W wr ta 3 Lx tb 64 Lb q Lx ∧ RowR wr N (.slice (some ⟨rb, 0, none⟩) n rc) O ∧ Iv O Ot i (i + 1) Lb ∧ Lb.length ≤ 2 * i + 1) := ⟨H.out.1, H.out.2.1, H.out.2.2.skip, by have h2 := hll.out; omega⟩
                        have HO : Hid (OthT wr wr) := fun _ _ _ _ _ => rfl
                        clear hox co y1 y2
                        as_aux_lemma =>
                          have cP := (Y.out.1.below (below_drew wr)).putb key z hks (by have := Y.out.2.2.2; omega)
                          have hS := HC.out (World.drew wr) (HO.out.trans (OthT.of_below (below_drew wr)))
                          have HR : Hid (∀ V, OthT (World.drew wr) V → RowR V N (.slice (some ⟨rb, 0, none⟩) n rc) O) := fun V hV => RowR.oth (Y.out.2.1.below' (below_drew wr)) hV
                          have HC2 : Hid (∀ V, OthT (World.drew wr) V → V.cell? ⟨rb, i * 2, none⟩ = some (.string key) ∧ V.cell? ⟨rb, i * 2 + 1, none⟩ = some (.int .i64 z)) := fun V hV => HC.out _ ((HO.out.trans (OthT.of_below (below_drew wr))).trans hV)
                          have HF : Hid (Iv O Ot (i + 1) (i + 1) (putL key z Lb) ∧ (putL key z Lb).length ≤ 2 * (i + 1)) := ⟨HM.out _ Y.out.1.swap.one.srt Y.out.2.2.1, by have h1 := putL_succ key z Y.out.1.swap.one.srt; have h2 := Y.out.2.2.2; omega⟩
                          go_wp2_with fail
                          apply wp_end (R := fun U => Tb W U ta 3 Lx tb 64 (putL key z Lb) q Lx ∧ RowR U N (.slice (some ⟨rb, 0, none⟩) n rc) O)
                          case h =>
                            go_region_held3 (fun U => U.cell? ⟨rb, i * 2, none⟩ = some (.string key) ∧ U.cell? ⟨rb, i * 2 + 1, none⟩ = some (.int .i64 z)) (first | exact hS5 | exact hS | go_keep)
                              (first | (go_at_call 12; refine cP.mono ?_; rintro e w8 ⟨rfl, b5, o5⟩; have hS5 := HC2.out _ o5; have HR5 := HR.out _ o5))
                            all_goals exact EndQ.mk ⟨b5, HR5⟩
                          rintro w8 b8
                          have HB8 := (show Hid _ from b8)
                          clear cP hS b8
                          go_wp2_with fail
                          go_roundw
                          case rel => exact ⟨i + 1, _, by omega, by go_num, ⟨HB8.out.1, HB8.out.2, HF.out.1⟩, HF.out.2⟩
                          case measure => simp [Go.RowKit.intOf]; omega
                    · have ho2 : ¬ ((i : Int) < (Ot.length : Int)) := by omega
                      have Y : Hid (Tb W wr ta 3 Lx tb 64 Lb q Lx ∧ RowR wr N (.slice (some ⟨rb, 0, none⟩) n rc) O ∧ Iv O Ot i (i + 1) Lb ∧ Lb.length ≤ 2 * i + 1) := ⟨H.out.1, H.out.2.1, H.out.2.2.skip, by have h2 := hll.out; omega⟩
                      have HO : Hid (OthT wr wr) := fun _ _ _ _ _ => rfl
                      clear y1 y2
                      as_aux_lemma =>
                        have cP := (Y.out.1.below (below_drew wr)).putb key z hks (by have := Y.out.2.2.2; omega)
                        have hS := HC.out (World.drew wr) (HO.out.trans (OthT.of_below (below_drew wr)))
                        have HR : Hid (∀ V, OthT (World.drew wr) V → RowR V N (.slice (some ⟨rb, 0, none⟩) n rc) O) := fun V hV => RowR.oth (Y.out.2.1.below' (below_drew wr)) hV
                        have HC2 : Hid (∀ V, OthT (World.drew wr) V → V.cell? ⟨rb, i * 2, none⟩ = some (.string key) ∧ V.cell? ⟨rb, i * 2 + 1, none⟩ = some (.int .i64 z)) := fun V hV => HC.out _ ((HO.out.trans (OthT.of_below (below_drew wr))).trans hV)
                        have HF : Hid (Iv O Ot (i + 1) (i + 1) (putL key z Lb) ∧ (putL key z Lb).length ≤ 2 * (i + 1)) := ⟨HM.out _ Y.out.1.swap.one.srt Y.out.2.2.1, by have h1 := putL_succ key z Y.out.1.swap.one.srt; have h2 := Y.out.2.2.2; omega⟩
                        go_wp2_with fail
                        apply wp_end (R := fun U => Tb W U ta 3 Lx tb 64 (putL key z Lb) q Lx ∧ RowR U N (.slice (some ⟨rb, 0, none⟩) n rc) O)
                        case h =>
                          go_region_held3 (fun U => U.cell? ⟨rb, i * 2, none⟩ = some (.string key) ∧ U.cell? ⟨rb, i * 2 + 1, none⟩ = some (.int .i64 z)) (first | exact hS5 | exact hS | go_keep)
                            (first | (go_at_call 12; refine cP.mono ?_; rintro e w8 ⟨rfl, b5, o5⟩; have hS5 := HC2.out _ o5; have HR5 := HR.out _ o5))
                          all_goals exact EndQ.mk ⟨b5, HR5⟩
                        rintro w8 b8
                        have HB8 := (show Hid _ from b8)
                        clear cP hS b8
                        go_wp2_with fail
                        go_roundw
                        case rel => exact ⟨i + 1, _, by omega, by go_num, ⟨HB8.out.1, HB8.out.2, HF.out.1⟩, HF.out.2⟩
                        case measure => simp [Go.RowKit.intOf]; omega
                  · obtain rfl : n = i := by omega
                    have HJ : Hid (Tb W wr ta 3 Lx tb 64 Lb q Lx ∧ Jv Lx Ot n 0 Lb ∧ Lb.length ≤ 2 * n + 0) := ⟨H.out.1, H.out.2.2.end hOl hpm.out, hll.out⟩
                    clear H hll hlt
                    go_wp2_with fail
                    go_loopw [18] (fun si wr => ∃ (i : Nat) (Lb : List Ent), i ≤ Ot.length ∧ si = .int .i64 (i : Int) ∧ Hid (Tb W wr ta 3 Lx tb 64 Lb q Lx ∧ Jv Lx Ot n i Lb ∧ Lb.length ≤ 2 * n + i)) (fun si _ => Ot.length - (Go.RowKit.intOf si).toNat)
                    case atStart => exact ⟨0, Lb, Nat.zero_le _, rfl, HJ.out⟩
                    case round =>
                      clear HJ hi
                      obtain ⟨i, Lc, hi, rfl, H⟩ := hrel
                      by_cases ho : i < Ot.length
                      · have ho2 : (i : Int) < (Ot.length : Int) := by omega
                        by_cases hin : i < n
                        · have hin2 : (i : Int) < (n : Int) := by omega
                          have hox : Ot[i]? = some (Ot[i]'ho) := List.getElem?_eq_getElem _
                          generalize Ot[i]'ho = o at hox
                          obtain ⟨bo, oo, eo, co⟩ := HOt.out.one (g := fun s => .string s) hox
                          subst eo
                          have x1 := co _ H.out.1.bel
                          by_cases hs : o.size < 1000
                          · have hs2 : (o.size : Int) < 1000 := by omega
                            have hs3 : ¬ ((1000 : Int) ≤ (o.size : Int)) := by omega
                            have cG := H.out.1.one.rget o
                            cases hh : hasL o Lx
                            · have hsr := H.out.1.swap.one.srt
                              have HF : Hid (Jv Lx Ot n (i + 1) (delL o Lc) ∧ (delL o Lc).length ≤ 2 * n + (i + 1)) := ⟨H.out.2.1.del hsr HSX.out.1 hox hh, by have h1 := delL_le o hsr; have h2 := H.out.2.2; omega⟩
                              have cD := H.out.1.delb o
                              rw [hh] at cG
                              clear hsr
                              go_wp2_with fail
                              refine cG.mono ?_
                              rintro e w4 ⟨rfl, h4⟩
                              rw [h4]
                              clear h4 w4 cG
                              go_wp2_with fail
                              refine cD.mono ?_
                              rintro e w5 ⟨rfl, b5, o5⟩
                              have HB5 := (show Hid _ from b5)
                              clear b5 o5 cD x1
                              go_wp2_with fail
                              go_roundw
                              case rel => exact ⟨i + 1, _, by omega, by go_num, HB5.out, HF.out.1, HF.out.2⟩
                              case measure => simp [Go.RowKit.intOf]; omega
                            · have hsr := H.out.1.swap.one.srt
                              have HF : Hid (Jv Lx Ot n (i + 1) (putL o (getL o Lx) Lc) ∧ (putL o (getL o Lx) Lc).length ≤ 2 * n + (i + 1)) := ⟨H.out.2.1.set hsr HSX.out.1 hox hh, by have h1 := putL_succ o (getL o Lx) hsr; have h2 := H.out.2.2; omega⟩
                              have cD := H.out.1.putb o (getL o Lx) (by omega) (by have h2 := H.out.2.2; omega)
                              rw [hh] at cG
                              generalize getL o Lx = zz at *
                              clear hsr
                              go_wp2_with fail
                              refine cG.mono ?_
                              rintro e w4 ⟨rfl, h4⟩
                              rw [h4]
                              clear h4 w4 cG
                              go_wp2_with fail
                              refine cD.mono ?_
                              rintro e w5 ⟨rfl, b5, o5⟩
                              have HB5 := (show Hid _ from b5)
                              clear b5 o5 cD x1
                              go_wp2_with fail
                              go_roundw
                              case rel => exact ⟨i + 1, _, by omega, by go_num, HB5.out, HF.out.1, HF.out.2⟩
                              case measure => simp [Go.RowKit.intOf]; omega
                          · have hs2 : ¬ ((o.size : Int) < 1000) := by omega
                            have hs3 : (1000 : Int) ≤ (o.size : Int) := by omega
                            have HF : Hid (Tb W wr ta 3 Lx tb 64 Lc q Lx ∧ Jv Lx Ot n (i + 1) Lc ∧ Lc.length ≤ 2 * n + (i + 1)) := ⟨H.out.1, H.out.2.1.skip hox hs, by have h2 := H.out.2.2; omega⟩
                            go_wp2_with fail
                            go_roundw
                            case rel => exact ⟨i + 1, _, by omega, by go_num, HF.out⟩
                            case measure => simp [Go.RowKit.intOf]; omega
                        · have hin2 : ¬ ((i : Int) < (n : Int)) := by omega
                          as_aux_lemma =>
                            obtain rfl : Lx = Lc := (H.out.2.1.end H.out.1.swap.one.srt HSX.out.1 (by omega)).symm
                            have HB9 : Hid (Tb W wr ta 3 Lx tb 64 Lx q Lx) := H.out.1
                            clear H
                            obtain ⟨M9, v9, t9, r9⟩ := HB9.out.one.ex
                            obtain ⟨ua, uc, eu, _, _⟩ := r9.row.len
                            rw [HN.out] at eu
                            have CE : Hid (∀ V, Below wr.heap.size wr V → V.cell? ⟨q, 0, none⟩ = some (.slice ua n uc)) := fun V hV => by
                              have h1 := (r9.below hV).top
                              rw [(cell_obj (j := 0) h1).1, ← eu]
                              rfl
                            have HR9 : Hid (RowR wr W.heap.size (.slice ua n uc) Lx) := by rw [← eu]; exact r9.row
                            have hRg : ∀ V, Below wr.heap.size wr V → Calls Try.prog 21 #[.pointer (some ⟨ta, 0, none⟩), .string ⟨#[]⟩, .string ⟨#[]⟩, .int .i64 4096] V fun e w' => ∃ v, e = .returned v ∧ RowE w' V.heap.size v Lx ∧ Below V.heap.size V w' := fun V hV => by
                              have h1 := (HB9.out.one.below hV).range ⟨#[]⟩ ⟨#[]⟩ 4096
                              rw [rg_empty, tk_all 4096 _ [] (by have := HN.out; simp; omega), List.nil_append] at h1
                              exact h1.mono fun e w' ⟨v, he, row, _, h2⟩ => ⟨v, he, row, h2⟩
                            have hRh : ∀ V, Below wr.heap.size wr V → Calls Try.prog 21 #[.pointer (some ⟨tb, 0, none⟩), .string ⟨#[]⟩, .string ⟨#[]⟩, .int .i64 4096] V fun e w' => ∃ v, e = .returned v ∧ RowE w' V.heap.size v Lx ∧ Below V.heap.size V w' := fun V hV => by
                              have h1 := (HB9.out.swap.one.below hV).range ⟨#[]⟩ ⟨#[]⟩ 4096
                              rw [rg_empty, tk_all 4096 _ [] (by have := HN.out; simp; omega), List.nil_append] at h1
                              exact h1.mono fun e w' ⟨v, he, row, _, h2⟩ => ⟨v, he, row, h2⟩
                            clear r9 t9 eu
                            go_wp2_with fail
                            refine anyL_begin (S := fun V => Below wr.heap.size wr V) (n := 19) (by kernel_rfl) (below_drew wr) (fun hHeld => ?_)
                            refine takeL 0 214 (v := .pointer (some ⟨ta, 0, none⟩)) rfl rfl (by kernel_rfl) (by kernel_rfl) (by kernel_rfl) (by kernel_rfl) (fun _ _ _ h => h) (Or.inl ⟨by rfl, by (intro W hSw; have s1 := CE.out W hSw; go_simp)⟩) hHeld ?_
                            simp only [List.setIfInBounds_toArray, List.set_cons_zero, List.set_cons_succ]
                            refine takeL 2 216 (v := .pointer (some ⟨q, 0, none⟩)) rfl rfl (by kernel_rfl) (by kernel_rfl) (by kernel_rfl) (by kernel_rfl) (fun _ _ _ h => h) (Or.inl ⟨by rfl, by (intro W hSw; have s1 := CE.out W hSw; go_simp)⟩) hHeld ?_
                            simp only [List.setIfInBounds_toArray, List.set_cons_zero, List.set_cons_succ]
                            refine takeL 3 217 (v := .pointer (some ⟨q, 0, none⟩)) rfl rfl (by kernel_rfl) (by kernel_rfl) (by kernel_rfl) (by kernel_rfl) (fun _ _ _ h => h) (Or.inl ⟨by rfl, by (intro W hSw; have s1 := CE.out W hSw; go_simp)⟩) hHeld ?_
                            simp only [List.setIfInBounds_toArray, List.set_cons_zero, List.set_cons_succ]
                            refine takeL 4 218 (v := .pointer (some ⟨q, 0, none⟩)) rfl rfl (by kernel_rfl) (by kernel_rfl) (by kernel_rfl) (by kernel_rfl) (fun _ _ _ h => h) (Or.inl ⟨by rfl, by (intro W hSw; have s1 := CE.out W hSw; go_simp)⟩) hHeld ?_
                            simp only [List.setIfInBounds_toArray, List.set_cons_zero, List.set_cons_succ]
                            refine takeL 5 219 (v := .slice ua n uc) rfl rfl (by kernel_rfl) (by kernel_rfl) (by kernel_rfl) (by kernel_rfl) (fun _ _ _ h => h) (Or.inl ⟨by rfl, by (intro W hSw; have s1 := CE.out W hSw; go_simp)⟩) hHeld ?_
                            simp only [List.setIfInBounds_toArray, List.set_cons_zero, List.set_cons_succ]
                            refine anyL_one 1 (by kernel_rfl) (upL rfl (fun K hK => ?_))
                            go_simp
                            refine (hRg _ hHeld).mono ?_
                            rintro e w6 ⟨v6, rfl, row6, h6⟩
                            have hb6 := below2 hHeld h6
                            have HR6 := (show Hid _ from row6)
                            clear row6 h6 hRg
                            go_simp
                            refine hK.out _ _ (fun _ => hb6) (fun hHeld0 => ?_)
                            have hHeld := hHeld0 (by decide)
                            clear hHeld0 hK K
                            (try simp only [Act.put, List.setIfInBounds_toArray, List.set_cons_zero, List.set_cons_succ])
                            refine anyL_one 6 (by kernel_rfl) (upL rfl (fun K hK => ?_))
                            go_simp
                            refine (same_any HR6.out (HR9.out.below' hHeld) (by have := HN.out; omega)).mono ?_
                            rintro e w7 ⟨rfl, h7⟩
                            have hb7 := below2 hHeld h7
                            clear h7
                            go_simp
                            refine hK.out _ _ (fun _ => hb7) (fun hHeld0 => ?_)
                            have hHeld := hHeld0 (by decide)
                            clear hHeld0 hK K
                            (try simp only [Act.put, List.setIfInBounds_toArray, List.set_cons_zero, List.set_cons_succ])
                            refine anyL_one 7 (by kernel_rfl) (upL rfl (fun K hK => ?_))
                            go_simp
                            refine hK.out _ _ (fun _ => hHeld) (fun hHeld0 => ?_)
                            have hHeld := hHeld0 (by decide)
                            clear hHeld0 hK K
                            (try simp only [Act.put, List.setIfInBounds_toArray, List.set_cons_zero, List.set_cons_succ])
                            refine takeL 8 222 (v := .pointer (some ⟨tb, 0, none⟩)) rfl rfl (by kernel_rfl) (by kernel_rfl) (by kernel_rfl) (by kernel_rfl) (fun _ _ _ h => h) (Or.inl ⟨by rfl, by (intro W hSw; have s1 := CE.out W hSw; go_simp)⟩) hHeld ?_
                            simp only [List.setIfInBounds_toArray, List.set_cons_zero, List.set_cons_succ]
                            refine takeL 10 224 (v := .pointer (some ⟨q, 0, none⟩)) rfl rfl (by kernel_rfl) (by kernel_rfl) (by kernel_rfl) (by kernel_rfl) (fun _ _ _ h => h) (Or.inl ⟨by rfl, by (intro W hSw; have s1 := CE.out W hSw; go_simp)⟩) hHeld ?_
                            simp only [List.setIfInBounds_toArray, List.set_cons_zero, List.set_cons_succ]
                            refine takeL 11 225 (v := .pointer (some ⟨q, 0, none⟩)) rfl rfl (by kernel_rfl) (by kernel_rfl) (by kernel_rfl) (by kernel_rfl) (fun _ _ _ h => h) (Or.inl ⟨by rfl, by (intro W hSw; have s1 := CE.out W hSw; go_simp)⟩) hHeld ?_
                            simp only [List.setIfInBounds_toArray, List.set_cons_zero, List.set_cons_succ]
                            refine takeL 12 226 (v := .pointer (some ⟨q, 0, none⟩)) rfl rfl (by kernel_rfl) (by kernel_rfl) (by kernel_rfl) (by kernel_rfl) (fun _ _ _ h => h) (Or.inl ⟨by rfl, by (intro W hSw; have s1 := CE.out W hSw; go_simp)⟩) hHeld ?_
                            simp only [List.setIfInBounds_toArray, List.set_cons_zero, List.set_cons_succ]
                            refine takeL 13 227 (v := .slice ua n uc) rfl rfl (by kernel_rfl) (by kernel_rfl) (by kernel_rfl) (by kernel_rfl) (fun _ _ _ h => h) (Or.inl ⟨by rfl, by (intro W hSw; have s1 := CE.out W hSw; go_simp)⟩) hHeld ?_
                            simp only [List.setIfInBounds_toArray, List.set_cons_zero, List.set_cons_succ]
                            refine anyL_one 9 (by kernel_rfl) (upL rfl (fun K hK => ?_))
                            go_simp
                            refine (hRh _ hHeld).mono ?_
                            rintro e w8 ⟨v8, rfl, row8, h8⟩
                            have hb8 := below2 hHeld h8
                            have HR8 := (show Hid _ from row8)
                            clear row8 h8 hRh
                            go_simp
                            refine hK.out _ _ (fun _ => hb8) (fun hHeld0 => ?_)
                            have hHeld := hHeld0 (by decide)
                            clear hHeld0 hK K
                            (try simp only [Act.put, List.setIfInBounds_toArray, List.set_cons_zero, List.set_cons_succ])
                            refine anyL_one 14 (by kernel_rfl) (upL rfl (fun K hK => ?_))
                            go_simp
                            refine (same_any HR8.out (HR9.out.below' hHeld) (by have := HN.out; omega)).mono ?_
                            rintro e w9 ⟨rfl, h9⟩
                            have hb9 := below2 hHeld h9
                            clear h9
                            go_simp
                            refine hK.out _ _ (fun _ => hb9) (fun hHeld0 => ?_)
                            have hHeld := hHeld0 (by decide)
                            clear hHeld0 hK K
                            (try simp only [Act.put, List.setIfInBounds_toArray, List.set_cons_zero, List.set_cons_succ])
                            refine anyL_one 15 (by kernel_rfl) (upL rfl (fun K hK => ?_))
                            go_simp
                            refine hK.out _ _ (fun _ => hHeld) (fun hHeld0 => ?_)
                            have hHeld := hHeld0 (by decide)
                            clear hHeld0 hK K
                            (try simp only [Act.put, List.setIfInBounds_toArray, List.set_cons_zero, List.set_cons_succ])
                            refine anyL_one 16 (by kernel_rfl) (upL rfl (fun K hK => ?_))
                            go_simp
                            refine hK.out _ _ (fun _ => hHeld) (fun hHeld0 => ?_)
                            have hHeld := hHeld0 (by decide)
                            clear hHeld0 hK K
                            (try simp only [Act.put, List.setIfInBounds_toArray, List.set_cons_zero, List.set_cons_succ])
                            refine anyL_one 17 (by kernel_rfl) (upL rfl (fun K hK => ?_))
                            go_simp
                            refine (wakes_any _).mono ?_
                            rintro e w10 ⟨rfl, h10⟩
                            have hb10 := below2 hHeld h10
                            clear h10
                            go_simp
                            refine hK.out _ _ (fun _ => hb10) (fun hHeld0 => ?_)
                            have hHeld := hHeld0 (by decide)
                            clear hHeld0 hK K
                            (try simp only [Act.put, List.setIfInBounds_toArray, List.set_cons_zero, List.set_cons_succ])
                            refine anyL_one 18 (by kernel_rfl) (upL rfl (fun K hK => ?_))
                            go_simp
                            refine hK.out _ _ (fun _ => hHeld) (fun hHeld0 => ?_)
                            have hHeld := hHeld0 (by decide)
                            clear hHeld0 hK K
                            (try simp only [Act.put, List.setIfInBounds_toArray, List.set_cons_zero, List.set_cons_succ])
                            refine anyL_one 19 (by kernel_rfl) (upL rfl (fun K hK => ?_))
                            go_simp
                            refine hK.out _ _ (fun q => absurd rfl q) (fun _ => ?_)
                            clear hK K
                            (try simp only [Act.put, List.setIfInBounds_toArray, List.set_cons_zero, List.set_cons_succ])
                            refine anyL_done (by kernel_rfl) ?_ _
                            go_wp2_with fail
                            go_ret
                            exact ⟨rfl, (HB9.out.below hHeld).bel⟩
                      · have ho2 : ¬ ((i : Int) < (Ot.length : Int)) := by omega
                        as_aux_lemma =>
                          obtain rfl : Lx = Lc := (H.out.2.1.end H.out.1.swap.one.srt HSX.out.1 (by omega)).symm
                          have HB9 : Hid (Tb W wr ta 3 Lx tb 64 Lx q Lx) := H.out.1
                          clear H
                          obtain ⟨M9, v9, t9, r9⟩ := HB9.out.one.ex
                          obtain ⟨ua, uc, eu, _, _⟩ := r9.row.len
                          rw [HN.out] at eu
                          have CE : Hid (∀ V, Below wr.heap.size wr V → V.cell? ⟨q, 0, none⟩ = some (.slice ua n uc)) := fun V hV => by
                            have h1 := (r9.below hV).top
                            rw [(cell_obj (j := 0) h1).1, ← eu]
                            rfl
                          have HR9 : Hid (RowR wr W.heap.size (.slice ua n uc) Lx) := by rw [← eu]; exact r9.row
                          have hRg : ∀ V, Below wr.heap.size wr V → Calls Try.prog 21 #[.pointer (some ⟨ta, 0, none⟩), .string ⟨#[]⟩, .string ⟨#[]⟩, .int .i64 4096] V fun e w' => ∃ v, e = .returned v ∧ RowE w' V.heap.size v Lx ∧ Below V.heap.size V w' := fun V hV => by
                            have h1 := (HB9.out.one.below hV).range ⟨#[]⟩ ⟨#[]⟩ 4096
                            rw [rg_empty, tk_all 4096 _ [] (by have := HN.out; simp; omega), List.nil_append] at h1
                            exact h1.mono fun e w' ⟨v, he, row, _, h2⟩ => ⟨v, he, row, h2⟩
                          have hRh : ∀ V, Below wr.heap.size wr V → Calls Try.prog 21 #[.pointer (some ⟨tb, 0, none⟩), .string ⟨#[]⟩, .string ⟨#[]⟩, .int .i64 4096] V fun e w' => ∃ v, e = .returned v ∧ RowE w' V.heap.size v Lx ∧ Below V.heap.size V w' := fun V hV => by
                            have h1 := (HB9.out.swap.one.below hV).range ⟨#[]⟩ ⟨#[]⟩ 4096
                            rw [rg_empty, tk_all 4096 _ [] (by have := HN.out; simp; omega), List.nil_append] at h1
                            exact h1.mono fun e w' ⟨v, he, row, _, h2⟩ => ⟨v, he, row, h2⟩
                          clear r9 t9 eu
                          go_wp2_with fail
                          refine anyL_begin (S := fun V => Below wr.heap.size wr V) (n := 19) (by kernel_rfl) (below_drew wr) (fun hHeld => ?_)
                          refine takeL 0 214 (v := .pointer (some ⟨ta, 0, none⟩)) rfl rfl (by kernel_rfl) (by kernel_rfl) (by kernel_rfl) (by kernel_rfl) (fun _ _ _ h => h) (Or.inl ⟨by rfl, by (intro W hSw; have s1 := CE.out W hSw; go_simp)⟩) hHeld ?_
                          simp only [List.setIfInBounds_toArray, List.set_cons_zero, List.set_cons_succ]
                          refine takeL 2 216 (v := .pointer (some ⟨q, 0, none⟩)) rfl rfl (by kernel_rfl) (by kernel_rfl) (by kernel_rfl) (by kernel_rfl) (fun _ _ _ h => h) (Or.inl ⟨by rfl, by (intro W hSw; have s1 := CE.out W hSw; go_simp)⟩) hHeld ?_
                          simp only [List.setIfInBounds_toArray, List.set_cons_zero, List.set_cons_succ]
                          refine takeL 3 217 (v := .pointer (some ⟨q, 0, none⟩)) rfl rfl (by kernel_rfl) (by kernel_rfl) (by kernel_rfl) (by kernel_rfl) (fun _ _ _ h => h) (Or.inl ⟨by rfl, by (intro W hSw; have s1 := CE.out W hSw; go_simp)⟩) hHeld ?_
                          simp only [List.setIfInBounds_toArray, List.set_cons_zero, List.set_cons_succ]
                          refine takeL 4 218 (v := .pointer (some ⟨q, 0, none⟩)) rfl rfl (by kernel_rfl) (by kernel_rfl) (by kernel_rfl) (by kernel_rfl) (fun _ _ _ h => h) (Or.inl ⟨by rfl, by (intro W hSw; have s1 := CE.out W hSw; go_simp)⟩) hHeld ?_
                          simp only [List.setIfInBounds_toArray, List.set_cons_zero, List.set_cons_succ]
                          refine takeL 5 219 (v := .slice ua n uc) rfl rfl (by kernel_rfl) (by kernel_rfl) (by kernel_rfl) (by kernel_rfl) (fun _ _ _ h => h) (Or.inl ⟨by rfl, by (intro W hSw; have s1 := CE.out W hSw; go_simp)⟩) hHeld ?_
                          simp only [List.setIfInBounds_toArray, List.set_cons_zero, List.set_cons_succ]
                          refine anyL_one 1 (by kernel_rfl) (upL rfl (fun K hK => ?_))
                          go_simp
                          refine (hRg _ hHeld).mono ?_
                          rintro e w6 ⟨v6, rfl, row6, h6⟩
                          have hb6 := below2 hHeld h6
                          have HR6 := (show Hid _ from row6)
                          clear row6 h6 hRg
                          go_simp
                          refine hK.out _ _ (fun _ => hb6) (fun hHeld0 => ?_)
                          have hHeld := hHeld0 (by decide)
                          clear hHeld0 hK K
                          (try simp only [Act.put, List.setIfInBounds_toArray, List.set_cons_zero, List.set_cons_succ])
                          refine anyL_one 6 (by kernel_rfl) (upL rfl (fun K hK => ?_))
                          go_simp
                          refine (same_any HR6.out (HR9.out.below' hHeld) (by have := HN.out; omega)).mono ?_
                          rintro e w7 ⟨rfl, h7⟩
                          have hb7 := below2 hHeld h7
                          clear h7
                          go_simp
                          refine hK.out _ _ (fun _ => hb7) (fun hHeld0 => ?_)
                          have hHeld := hHeld0 (by decide)
                          clear hHeld0 hK K
                          (try simp only [Act.put, List.setIfInBounds_toArray, List.set_cons_zero, List.set_cons_succ])
                          refine anyL_one 7 (by kernel_rfl) (upL rfl (fun K hK => ?_))
                          go_simp
                          refine hK.out _ _ (fun _ => hHeld) (fun hHeld0 => ?_)
                          have hHeld := hHeld0 (by decide)
                          clear hHeld0 hK K
                          (try simp only [Act.put, List.setIfInBounds_toArray, List.set_cons_zero, List.set_cons_succ])
                          refine takeL 8 222 (v := .pointer (some ⟨tb, 0, none⟩)) rfl rfl (by kernel_rfl) (by kernel_rfl) (by kernel_rfl) (by kernel_rfl) (fun _ _ _ h => h) (Or.inl ⟨by rfl, by (intro W hSw; have s1 := CE.out W hSw; go_simp)⟩) hHeld ?_
                          simp only [List.setIfInBounds_toArray, List.set_cons_zero, List.set_cons_succ]
                          refine takeL 10 224 (v := .pointer (some ⟨q, 0, none⟩)) rfl rfl (by kernel_rfl) (by kernel_rfl) (by kernel_rfl) (by kernel_rfl) (fun _ _ _ h => h) (Or.inl ⟨by rfl, by (intro W hSw; have s1 := CE.out W hSw; go_simp)⟩) hHeld ?_
                          simp only [List.setIfInBounds_toArray, List.set_cons_zero, List.set_cons_succ]
                          refine takeL 11 225 (v := .pointer (some ⟨q, 0, none⟩)) rfl rfl (by kernel_rfl) (by kernel_rfl) (by kernel_rfl) (by kernel_rfl) (fun _ _ _ h => h) (Or.inl ⟨by rfl, by (intro W hSw; have s1 := CE.out W hSw; go_simp)⟩) hHeld ?_
                          simp only [List.setIfInBounds_toArray, List.set_cons_zero, List.set_cons_succ]
                          refine takeL 12 226 (v := .pointer (some ⟨q, 0, none⟩)) rfl rfl (by kernel_rfl) (by kernel_rfl) (by kernel_rfl) (by kernel_rfl) (fun _ _ _ h => h) (Or.inl ⟨by rfl, by (intro W hSw; have s1 := CE.out W hSw; go_simp)⟩) hHeld ?_
                          simp only [List.setIfInBounds_toArray, List.set_cons_zero, List.set_cons_succ]
                          refine takeL 13 227 (v := .slice ua n uc) rfl rfl (by kernel_rfl) (by kernel_rfl) (by kernel_rfl) (by kernel_rfl) (fun _ _ _ h => h) (Or.inl ⟨by rfl, by (intro W hSw; have s1 := CE.out W hSw; go_simp)⟩) hHeld ?_
                          simp only [List.setIfInBounds_toArray, List.set_cons_zero, List.set_cons_succ]
                          refine anyL_one 9 (by kernel_rfl) (upL rfl (fun K hK => ?_))
                          go_simp
                          refine (hRh _ hHeld).mono ?_
                          rintro e w8 ⟨v8, rfl, row8, h8⟩
                          have hb8 := below2 hHeld h8
                          have HR8 := (show Hid _ from row8)
                          clear row8 h8 hRh
                          go_simp
                          refine hK.out _ _ (fun _ => hb8) (fun hHeld0 => ?_)
                          have hHeld := hHeld0 (by decide)
                          clear hHeld0 hK K
                          (try simp only [Act.put, List.setIfInBounds_toArray, List.set_cons_zero, List.set_cons_succ])
                          refine anyL_one 14 (by kernel_rfl) (upL rfl (fun K hK => ?_))
                          go_simp
                          refine (same_any HR8.out (HR9.out.below' hHeld) (by have := HN.out; omega)).mono ?_
                          rintro e w9 ⟨rfl, h9⟩
                          have hb9 := below2 hHeld h9
                          clear h9
                          go_simp
                          refine hK.out _ _ (fun _ => hb9) (fun hHeld0 => ?_)
                          have hHeld := hHeld0 (by decide)
                          clear hHeld0 hK K
                          (try simp only [Act.put, List.setIfInBounds_toArray, List.set_cons_zero, List.set_cons_succ])
                          refine anyL_one 15 (by kernel_rfl) (upL rfl (fun K hK => ?_))
                          go_simp
                          refine hK.out _ _ (fun _ => hHeld) (fun hHeld0 => ?_)
                          have hHeld := hHeld0 (by decide)
                          clear hHeld0 hK K
                          (try simp only [Act.put, List.setIfInBounds_toArray, List.set_cons_zero, List.set_cons_succ])
                          refine anyL_one 16 (by kernel_rfl) (upL rfl (fun K hK => ?_))
                          go_simp
                          refine hK.out _ _ (fun _ => hHeld) (fun hHeld0 => ?_)
                          have hHeld := hHeld0 (by decide)
                          clear hHeld0 hK K
                          (try simp only [Act.put, List.setIfInBounds_toArray, List.set_cons_zero, List.set_cons_succ])
                          refine anyL_one 17 (by kernel_rfl) (upL rfl (fun K hK => ?_))
                          go_simp
                          refine (wakes_any _).mono ?_
                          rintro e w10 ⟨rfl, h10⟩
                          have hb10 := below2 hHeld h10
                          clear h10
                          go_simp
                          refine hK.out _ _ (fun _ => hb10) (fun hHeld0 => ?_)
                          have hHeld := hHeld0 (by decide)
                          clear hHeld0 hK K
                          (try simp only [Act.put, List.setIfInBounds_toArray, List.set_cons_zero, List.set_cons_succ])
                          refine anyL_one 18 (by kernel_rfl) (upL rfl (fun K hK => ?_))
                          go_simp
                          refine hK.out _ _ (fun _ => hHeld) (fun hHeld0 => ?_)
                          have hHeld := hHeld0 (by decide)
                          clear hHeld0 hK K
                          (try simp only [Act.put, List.setIfInBounds_toArray, List.set_cons_zero, List.set_cons_succ])
                          refine anyL_one 19 (by kernel_rfl) (upL rfl (fun K hK => ?_))
                          go_simp
                          refine hK.out _ _ (fun q => absurd rfl q) (fun _ => ?_)
                          clear hK K
                          (try simp only [Act.put, List.setIfInBounds_toArray, List.set_cons_zero, List.set_cons_succ])
                          refine anyL_done (by kernel_rfl) ?_ _
                          go_wp2_with fail
                          go_ret
                          exact ⟨rfl, (HB9.out.below hHeld).bel⟩
          · have i1 : ¬ ((i : Int) + 1 < (Kt.length : Int)) := by omega
            as_aux_lemma =>
              have HL3 : Hid (Tb W wr ta 3 Lx tb 64 [] q Lx ∧ RowR wr N (.slice ra n rc) O) := ⟨hr.out, hro.out⟩
              have HND : Hid ((O.map Ent.key).Nodup) := (hpm.out.map Ent.key).nodup_iff.2 (srt_nodup HSX.out.1)
              clear hr hro hbe
              go_wp2_with fail
              go_loopw [17] (fun si wr => ∃ (i : Nat) (Lb : List Ent), i ≤ n ∧ si = .int .i64 (i : Int) ∧ Hid (Tb W wr ta 3 Lx tb 64 Lb q Lx ∧ RowR wr N (.slice ra n rc) O ∧ Iv O Ot i i Lb) ∧ Hid (Lb.length ≤ 2 * i)) (fun si _ => n - (Go.RowKit.intOf si).toNat)
              case atStart => exact ⟨0, [], Nat.zero_le _, rfl, ⟨HL3.out.1, HL3.out.2, Iv.start O Ot⟩, Nat.le_refl _⟩
              case round =>
                clear HL3 hi
                obtain ⟨i, Lb, hi, rfl, H, hll⟩ := hrel
                by_cases hlt : i < n
                · have hlt2 : (i : Int) < (n : Int) := by omega
                  have hx : O[i]? = some (O[i]'(by omega)) := List.getElem?_eq_getElem _
                  generalize O[i]'(by omega) = x at hx
                  obtain ⟨rb, rc', ev, _, hB, hbl, s0⟩ := H.out.2.1.cell gE_len hx
                  rw [hOl] at ev
                  injection ev with q1 q2 q3
                  subst q1 q3
                  have HC : Hid (∀ V, OthT wr V → V.cell? ⟨rb, i * 2, none⟩ = some (.string x.key) ∧ V.cell? ⟨rb, i * 2 + 1, none⟩ = some (.int .i64 x.n)) := fun V hV => by
                    obtain ⟨_, _, e, _, _, _, t0⟩ := (H.out.2.1.oth hV).cell gE_len hx
                    injection e with q4 q5 q6
                    injection q4 with q4
                    injection q4 with q4 _ _
                    subst q4
                    exact ⟨(t0 0 _ rfl).1, (t0 1 _ rfl).1⟩
                  clear s0 q2
                  have hks : x.key.size ≤ 4096 := HSX.out.2 x (hpm.out.mem_iff.1 (List.mem_of_getElem? hx))
                  have HM : Hid (∀ Lb', Srt Lb' → Iv O Ot i (i + 1) Lb' → Iv O Ot (i + 1) (i + 1) (putL x.key x.n Lb')) := fun Lb' h1 h2 => h2.mine h1 HND.out hx
                  clear hx
                  obtain ⟨key, z⟩ := x
                  simp only at hks HM HC
                  obtain ⟨y1, y2⟩ := HC.out wr (fun _ _ _ _ _ => rfl)
                  by_cases ho : i < Ot.length
                  · have ho2 : (i : Int) < (Ot.length : Int) := by omega
                    have hox : Ot[i]? = some (Ot[i]'ho) := List.getElem?_eq_getElem _
                    generalize Ot[i]'ho = o at hox
                    obtain ⟨bo, oo, eo, co⟩ := HOt.out.one (g := fun s => .string s) hox
                    subst eo
                    have x1 := co _ H.out.1.bel
                    by_cases hs : o.size < 1000
                    · have hs2 : (o.size : Int) < 1000 := by omega
                      have cQ := H.out.1.putb o (-1) (by omega) (by have := hll.out; omega)
                      go_wp2_with fail
                      refine cQ.mono ?_
                      rintro e w4 ⟨rfl, b4, o4⟩
                      have Y : Hid (Tb W w4 ta 3 Lx tb 64 (putL o (-1) Lb) q Lx ∧ RowR w4 N (.slice (some ⟨rb, 0, none⟩) n rc) O ∧ Iv O Ot i (i + 1) (putL o (-1) Lb) ∧ (putL o (-1) Lb).length ≤ 2 * i + 1) := ⟨b4, H.out.2.1.oth o4, H.out.2.2.other H.out.1.swap.one.srt hox hs (-1), by have h1 := putL_succ o (-1) H.out.1.swap.one.srt; have h2 := hll.out; omega⟩
                      have HO : Hid (OthT wr w4) := o4
                      clear cQ b4 o4 hox co x1 y1 y2
                      as_aux_lemma =>
                        have cP := (Y.out.1.below (below_drew w4)).putb key z hks (by have := Y.out.2.2.2; omega)
                        have hS := HC.out (World.drew w4) (HO.out.trans (OthT.of_below (below_drew w4)))
                        have HR : Hid (∀ V, OthT (World.drew w4) V → RowR V N (.slice (some ⟨rb, 0, none⟩) n rc) O) := fun V hV => RowR.oth (Y.out.2.1.below' (below_drew w4)) hV
                        have HC2 : Hid (∀ V, OthT (World.drew w4) V → V.cell? ⟨rb, i * 2, none⟩ = some (.string key) ∧ V.cell? ⟨rb, i * 2 + 1, none⟩ = some (.int .i64 z)) := fun V hV => HC.out _ ((HO.out.trans (OthT.of_below (below_drew w4))).trans hV)
                        have HF : Hid (Iv O Ot (i + 1) (i + 1) (putL key z (putL o (-1) Lb)) ∧ (putL key z (putL o (-1) Lb)).length ≤ 2 * (i + 1)) := ⟨HM.out _ Y.out.1.swap.one.srt Y.out.2.2.1, by have h1 := putL_succ key z Y.out.1.swap.one.srt; have h2 := Y.out.2.2.2; omega⟩
                        go_wp2_with fail
                        apply wp_end (R := fun U => Tb W U ta 3 Lx tb 64 (putL key z (putL o (-1) Lb)) q Lx ∧ RowR U N (.slice (some ⟨rb, 0, none⟩) n rc) O)
                        case h =>
                          go_region_held3 (fun U => U.cell? ⟨rb, i * 2, none⟩ = some (.string key) ∧ U.cell? ⟨rb, i * 2 + 1, none⟩ = some (.int .i64 z)) (first | exact hS5 | exact hS | go_keep)
                            (first | (go_at_call 12; refine cP.mono ?_; rintro e w8 ⟨rfl, b5, o5⟩; have hS5 := HC2.out _ o5; have HR5 := HR.out _ o5))
                          all_goals exact EndQ.mk ⟨b5, HR5⟩
                        rintro w8 b8
                        have HB8 := (show Hid _ from b8)
                        clear cP hS b8
                        go_wp2_with fail
                        go_roundw
                        case rel => exact ⟨i + 1, _, by omega, by go_num, ⟨HB8.out.1, HB8.out.2, HF.out.1⟩, HF.out.2⟩
                        case measure => simp [Go.RowKit.intOf]; omega
                    · have hs2 : ¬ ((o.size : Int) < 1000) := by omega
                      have Y : Hid (Tb W wr ta 3 Lx tb 64 Lb q Lx ∧ RowR wr N (.slice (some ⟨rb, 0, none⟩) n rc) O ∧ Iv O Ot i (i + 1) Lb ∧ Lb.length ≤ 2 * i + 1) := ⟨H.out.1, H.out.2.1, H.out.2.2.skip, by have h2 := hll.out; omega⟩
                      have HO : Hid (OthT wr wr) := fun _ _ _ _ _ => rfl
                      clear hox co y1 y2
                      as_aux_lemma =>
                        have cP := (Y.out.1.below (below_drew wr)).putb key z hks (by have := Y.out.2.2.2; omega)
                        have hS := HC.out (World.drew wr) (HO.out.trans (OthT.of_below (below_drew wr)))
                        have HR : Hid (∀ V, OthT (World.drew wr) V → RowR V N (.slice (some ⟨rb, 0, none⟩) n rc) O) := fun V hV => RowR.oth (Y.out.2.1.below' (below_drew wr)) hV
                        have HC2 : Hid (∀ V, OthT (World.drew wr) V → V.cell? ⟨rb, i * 2, none⟩ = some (.string key) ∧ V.cell? ⟨rb, i * 2 + 1, none⟩ = some (.int .i64 z)) := fun V hV => HC.out _ ((HO.out.trans (OthT.of_below (below_drew wr))).trans hV)
                        have HF : Hid (Iv O Ot (i + 1) (i + 1) (putL key z Lb) ∧ (putL key z Lb).length ≤ 2 * (i + 1)) := ⟨HM.out _ Y.out.1.swap.one.srt Y.out.2.2.1, by have h1 := putL_succ key z Y.out.1.swap.one.srt; have h2 := Y.out.2.2.2; omega⟩
                        go_wp2_with fail
                        apply wp_end (R := fun U => Tb W U ta 3 Lx tb 64 (putL key z Lb) q Lx ∧ RowR U N (.slice (some ⟨rb, 0, none⟩) n rc) O)
                        case h =>
                          go_region_held3 (fun U => U.cell? ⟨rb, i * 2, none⟩ = some (.string key) ∧ U.cell? ⟨rb, i * 2 + 1, none⟩ = some (.int .i64 z)) (first | exact hS5 | exact hS | go_keep)
                            (first | (go_at_call 12; refine cP.mono ?_; rintro e w8 ⟨rfl, b5, o5⟩; have hS5 := HC2.out _ o5; have HR5 := HR.out _ o5))
                          all_goals exact EndQ.mk ⟨b5, HR5⟩
                        rintro w8 b8
                        have HB8 := (show Hid _ from b8)
                        clear cP hS b8
                        go_wp2_with fail
                        go_roundw
                        case rel => exact ⟨i + 1, _, by omega, by go_num, ⟨HB8.out.1, HB8.out.2, HF.out.1⟩, HF.out.2⟩
                        case measure => simp [Go.RowKit.intOf]; omega
                  · have ho2 : ¬ ((i : Int) < (Ot.length : Int)) := by omega
                    have Y : Hid (Tb W wr ta 3 Lx tb 64 Lb q Lx ∧ RowR wr N (.slice (some ⟨rb, 0, none⟩) n rc) O ∧ Iv O Ot i (i + 1) Lb ∧ Lb.length ≤ 2 * i + 1) := ⟨H.out.1, H.out.2.1, H.out.2.2.skip, by have h2 := hll.out; omega⟩
                    have HO : Hid (OthT wr wr) := fun _ _ _ _ _ => rfl
                    clear y1 y2
                    as_aux_lemma =>
                      have cP := (Y.out.1.below (below_drew wr)).putb key z hks (by have := Y.out.2.2.2; omega)
                      have hS := HC.out (World.drew wr) (HO.out.trans (OthT.of_below (below_drew wr)))
                      have HR : Hid (∀ V, OthT (World.drew wr) V → RowR V N (.slice (some ⟨rb, 0, none⟩) n rc) O) := fun V hV => RowR.oth (Y.out.2.1.below' (below_drew wr)) hV
                      have HC2 : Hid (∀ V, OthT (World.drew wr) V → V.cell? ⟨rb, i * 2, none⟩ = some (.string key) ∧ V.cell? ⟨rb, i * 2 + 1, none⟩ = some (.int .i64 z)) := fun V hV => HC.out _ ((HO.out.trans (OthT.of_below (below_drew wr))).trans hV)
                      have HF : Hid (Iv O Ot (i + 1) (i + 1) (putL key z Lb) ∧ (putL key z Lb).length ≤ 2 * (i + 1)) := ⟨HM.out _ Y.out.1.swap.one.srt Y.out.2.2.1, by have h1 := putL_succ key z Y.out.1.swap.one.srt; have h2 := Y.out.2.2.2; omega⟩
                      go_wp2_with fail
                      apply wp_end (R := fun U => Tb W U ta 3 Lx tb 64 (putL key z Lb) q Lx ∧ RowR U N (.slice (some ⟨rb, 0, none⟩) n rc) O)
                      case h =>
                        go_region_held3 (fun U => U.cell? ⟨rb, i * 2, none⟩ = some (.string key) ∧ U.cell? ⟨rb, i * 2 + 1, none⟩ = some (.int .i64 z)) (first | exact hS5 | exact hS | go_keep)
                          (first | (go_at_call 12; refine cP.mono ?_; rintro e w8 ⟨rfl, b5, o5⟩; have hS5 := HC2.out _ o5; have HR5 := HR.out _ o5))
                        all_goals exact EndQ.mk ⟨b5, HR5⟩
                      rintro w8 b8
                      have HB8 := (show Hid _ from b8)
                      clear cP hS b8
                      go_wp2_with fail
                      go_roundw
                      case rel => exact ⟨i + 1, _, by omega, by go_num, ⟨HB8.out.1, HB8.out.2, HF.out.1⟩, HF.out.2⟩
                      case measure => simp [Go.RowKit.intOf]; omega
                · obtain rfl : n = i := by omega
                  have HJ : Hid (Tb W wr ta 3 Lx tb 64 Lb q Lx ∧ Jv Lx Ot n 0 Lb ∧ Lb.length ≤ 2 * n + 0) := ⟨H.out.1, H.out.2.2.end hOl hpm.out, hll.out⟩
                  clear H hll hlt
                  go_wp2_with fail
                  go_loopw [18] (fun si wr => ∃ (i : Nat) (Lb : List Ent), i ≤ Ot.length ∧ si = .int .i64 (i : Int) ∧ Hid (Tb W wr ta 3 Lx tb 64 Lb q Lx ∧ Jv Lx Ot n i Lb ∧ Lb.length ≤ 2 * n + i)) (fun si _ => Ot.length - (Go.RowKit.intOf si).toNat)
                  case atStart => exact ⟨0, Lb, Nat.zero_le _, rfl, HJ.out⟩
                  case round =>
                    clear HJ hi
                    obtain ⟨i, Lc, hi, rfl, H⟩ := hrel
                    by_cases ho : i < Ot.length
                    · have ho2 : (i : Int) < (Ot.length : Int) := by omega
                      by_cases hin : i < n
                      · have hin2 : (i : Int) < (n : Int) := by omega
                        have hox : Ot[i]? = some (Ot[i]'ho) := List.getElem?_eq_getElem _
                        generalize Ot[i]'ho = o at hox
                        obtain ⟨bo, oo, eo, co⟩ := HOt.out.one (g := fun s => .string s) hox
                        subst eo
                        have x1 := co _ H.out.1.bel
                        by_cases hs : o.size < 1000
                        · have hs2 : (o.size : Int) < 1000 := by omega
                          have hs3 : ¬ ((1000 : Int) ≤ (o.size : Int)) := by omega
                          have cG := H.out.1.one.rget o
                          cases hh : hasL o Lx
                          · have hsr := H.out.1.swap.one.srt
                            have HF : Hid (Jv Lx Ot n (i + 1) (delL o Lc) ∧ (delL o Lc).length ≤ 2 * n + (i + 1)) := ⟨H.out.2.1.del hsr HSX.out.1 hox hh, by have h1 := delL_le o hsr; have h2 := H.out.2.2; omega⟩
                            have cD := H.out.1.delb o
                            rw [hh] at cG
                            clear hsr
                            go_wp2_with fail
                            refine cG.mono ?_
                            rintro e w4 ⟨rfl, h4⟩
                            rw [h4]
                            clear h4 w4 cG
                            go_wp2_with fail
                            refine cD.mono ?_
                            rintro e w5 ⟨rfl, b5, o5⟩
                            have HB5 := (show Hid _ from b5)
                            clear b5 o5 cD x1
                            go_wp2_with fail
                            go_roundw
                            case rel => exact ⟨i + 1, _, by omega, by go_num, HB5.out, HF.out.1, HF.out.2⟩
                            case measure => simp [Go.RowKit.intOf]; omega
                          · have hsr := H.out.1.swap.one.srt
                            have HF : Hid (Jv Lx Ot n (i + 1) (putL o (getL o Lx) Lc) ∧ (putL o (getL o Lx) Lc).length ≤ 2 * n + (i + 1)) := ⟨H.out.2.1.set hsr HSX.out.1 hox hh, by have h1 := putL_succ o (getL o Lx) hsr; have h2 := H.out.2.2; omega⟩
                            have cD := H.out.1.putb o (getL o Lx) (by omega) (by have h2 := H.out.2.2; omega)
                            rw [hh] at cG
                            generalize getL o Lx = zz at *
                            clear hsr
                            go_wp2_with fail
                            refine cG.mono ?_
                            rintro e w4 ⟨rfl, h4⟩
                            rw [h4]
                            clear h4 w4 cG
                            go_wp2_with fail
                            refine cD.mono ?_
                            rintro e w5 ⟨rfl, b5, o5⟩
                            have HB5 := (show Hid _ from b5)
                            clear b5 o5 cD x1
                            go_wp2_with fail
                            go_roundw
                            case rel => exact ⟨i + 1, _, by omega, by go_num, HB5.out, HF.out.1, HF.out.2⟩
                            case measure => simp [Go.RowKit.intOf]; omega
                        · have hs2 : ¬ ((o.size : Int) < 1000) := by omega
                          have hs3 : (1000 : Int) ≤ (o.size : Int) := by omega
                          have HF : Hid (Tb W wr ta 3 Lx tb 64 Lc q Lx ∧ Jv Lx Ot n (i + 1) Lc ∧ Lc.length ≤ 2 * n + (i + 1)) := ⟨H.out.1, H.out.2.1.skip hox hs, by have h2 := H.out.2.2; omega⟩
                          go_wp2_with fail
                          go_roundw
                          case rel => exact ⟨i + 1, _, by omega, by go_num, HF.out⟩
                          case measure => simp [Go.RowKit.intOf]; omega
                      · have hin2 : ¬ ((i : Int) < (n : Int)) := by omega
                        as_aux_lemma =>
                          obtain rfl : Lx = Lc := (H.out.2.1.end H.out.1.swap.one.srt HSX.out.1 (by omega)).symm
                          have HB9 : Hid (Tb W wr ta 3 Lx tb 64 Lx q Lx) := H.out.1
                          clear H
                          obtain ⟨M9, v9, t9, r9⟩ := HB9.out.one.ex
                          obtain ⟨ua, uc, eu, _, _⟩ := r9.row.len
                          rw [HN.out] at eu
                          have CE : Hid (∀ V, Below wr.heap.size wr V → V.cell? ⟨q, 0, none⟩ = some (.slice ua n uc)) := fun V hV => by
                            have h1 := (r9.below hV).top
                            rw [(cell_obj (j := 0) h1).1, ← eu]
                            rfl
                          have HR9 : Hid (RowR wr W.heap.size (.slice ua n uc) Lx) := by rw [← eu]; exact r9.row
                          have hRg : ∀ V, Below wr.heap.size wr V → Calls Try.prog 21 #[.pointer (some ⟨ta, 0, none⟩), .string ⟨#[]⟩, .string ⟨#[]⟩, .int .i64 4096] V fun e w' => ∃ v, e = .returned v ∧ RowE w' V.heap.size v Lx ∧ Below V.heap.size V w' := fun V hV => by
                            have h1 := (HB9.out.one.below hV).range ⟨#[]⟩ ⟨#[]⟩ 4096
                            rw [rg_empty, tk_all 4096 _ [] (by have := HN.out; simp; omega), List.nil_append] at h1
                            exact h1.mono fun e w' ⟨v, he, row, _, h2⟩ => ⟨v, he, row, h2⟩
                          have hRh : ∀ V, Below wr.heap.size wr V → Calls Try.prog 21 #[.pointer (some ⟨tb, 0, none⟩), .string ⟨#[]⟩, .string ⟨#[]⟩, .int .i64 4096] V fun e w' => ∃ v, e = .returned v ∧ RowE w' V.heap.size v Lx ∧ Below V.heap.size V w' := fun V hV => by
                            have h1 := (HB9.out.swap.one.below hV).range ⟨#[]⟩ ⟨#[]⟩ 4096
                            rw [rg_empty, tk_all 4096 _ [] (by have := HN.out; simp; omega), List.nil_append] at h1
                            exact h1.mono fun e w' ⟨v, he, row, _, h2⟩ => ⟨v, he, row, h2⟩
                          clear r9 t9 eu
                          go_wp2_with fail
                          refine anyL_begin (S := fun V => Below wr.heap.size wr V) (n := 19) (by kernel_rfl) (below_drew wr) (fun hHeld => ?_)
                          refine takeL 0 214 (v := .pointer (some ⟨ta, 0, none⟩)) rfl rfl (by kernel_rfl) (by kernel_rfl) (by kernel_rfl) (by kernel_rfl) (fun _ _ _ h => h) (Or.inl ⟨by rfl, by (intro W hSw; have s1 := CE.out W hSw; go_simp)⟩) hHeld ?_
                          simp only [List.setIfInBounds_toArray, List.set_cons_zero, List.set_cons_succ]
                          refine takeL 2 216 (v := .pointer (some ⟨q, 0, none⟩)) rfl rfl (by kernel_rfl) (by kernel_rfl) (by kernel_rfl) (by kernel_rfl) (fun _ _ _ h => h) (Or.inl ⟨by rfl, by (intro W hSw; have s1 := CE.out W hSw; go_simp)⟩) hHeld ?_
                          simp only [List.setIfInBounds_toArray, List.set_cons_zero, List.set_cons_succ]
                          refine takeL 3 217 (v := .pointer (some ⟨q, 0, none⟩)) rfl rfl (by kernel_rfl) (by kernel_rfl) (by kernel_rfl) (by kernel_rfl) (fun _ _ _ h => h) (Or.inl ⟨by rfl, by (intro W hSw; have s1 := CE.out W hSw; go_simp)⟩) hHeld ?_
                          simp only [List.setIfInBounds_toArray, List.set_cons_zero, List.set_cons_succ]
                          refine takeL 4 218 (v := .pointer (some ⟨q, 0, none⟩)) rfl rfl (by kernel_rfl) (by kernel_rfl) (by kernel_rfl) (by kernel_rfl) (fun _ _ _ h => h) (Or.inl ⟨by rfl, by (intro W hSw; have s1 := CE.out W hSw; go_simp)⟩) hHeld ?_
                          simp only [List.setIfInBounds_toArray, List.set_cons_zero, List.set_cons_succ]
                          refine takeL 5 219 (v := .slice ua n uc) rfl rfl (by kernel_rfl) (by kernel_rfl) (by kernel_rfl) (by kernel_rfl) (fun _ _ _ h => h) (Or.inl ⟨by rfl, by (intro W hSw; have s1 := CE.out W hSw; go_simp)⟩) hHeld ?_
                          simp only [List.setIfInBounds_toArray, List.set_cons_zero, List.set_cons_succ]
                          refine anyL_one 1 (by kernel_rfl) (upL rfl (fun K hK => ?_))
                          go_simp
                          refine (hRg _ hHeld).mono ?_
                          rintro e w6 ⟨v6, rfl, row6, h6⟩
                          have hb6 := below2 hHeld h6
                          have HR6 := (show Hid _ from row6)
                          clear row6 h6 hRg
                          go_simp
                          refine hK.out _ _ (fun _ => hb6) (fun hHeld0 => ?_)
                          have hHeld := hHeld0 (by decide)
                          clear hHeld0 hK K
                          (try simp only [Act.put, List.setIfInBounds_toArray, List.set_cons_zero, List.set_cons_succ])
                          refine anyL_one 6 (by kernel_rfl) (upL rfl (fun K hK => ?_))
                          go_simp
                          refine (same_any HR6.out (HR9.out.below' hHeld) (by have := HN.out; omega)).mono ?_
                          rintro e w7 ⟨rfl, h7⟩
                          have hb7 := below2 hHeld h7
                          clear h7
                          go_simp
                          refine hK.out _ _ (fun _ => hb7) (fun hHeld0 => ?_)
                          have hHeld := hHeld0 (by decide)
                          clear hHeld0 hK K
                          (try simp only [Act.put, List.setIfInBounds_toArray, List.set_cons_zero, List.set_cons_succ])
                          refine anyL_one 7 (by kernel_rfl) (upL rfl (fun K hK => ?_))
                          go_simp
                          refine hK.out _ _ (fun _ => hHeld) (fun hHeld0 => ?_)
                          have hHeld := hHeld0 (by decide)
                          clear hHeld0 hK K
                          (try simp only [Act.put, List.setIfInBounds_toArray, List.set_cons_zero, List.set_cons_succ])
                          refine takeL 8 222 (v := .pointer (some ⟨tb, 0, none⟩)) rfl rfl (by kernel_rfl) (by kernel_rfl) (by kernel_rfl) (by kernel_rfl) (fun _ _ _ h => h) (Or.inl ⟨by rfl, by (intro W hSw; have s1 := CE.out W hSw; go_simp)⟩) hHeld ?_
                          simp only [List.setIfInBounds_toArray, List.set_cons_zero, List.set_cons_succ]
                          refine takeL 10 224 (v := .pointer (some ⟨q, 0, none⟩)) rfl rfl (by kernel_rfl) (by kernel_rfl) (by kernel_rfl) (by kernel_rfl) (fun _ _ _ h => h) (Or.inl ⟨by rfl, by (intro W hSw; have s1 := CE.out W hSw; go_simp)⟩) hHeld ?_
                          simp only [List.setIfInBounds_toArray, List.set_cons_zero, List.set_cons_succ]
                          refine takeL 11 225 (v := .pointer (some ⟨q, 0, none⟩)) rfl rfl (by kernel_rfl) (by kernel_rfl) (by kernel_rfl) (by kernel_rfl) (fun _ _ _ h => h) (Or.inl ⟨by rfl, by (intro W hSw; have s1 := CE.out W hSw; go_simp)⟩) hHeld ?_
                          simp only [List.setIfInBounds_toArray, List.set_cons_zero, List.set_cons_succ]
                          refine takeL 12 226 (v := .pointer (some ⟨q, 0, none⟩)) rfl rfl (by kernel_rfl) (by kernel_rfl) (by kernel_rfl) (by kernel_rfl) (fun _ _ _ h => h) (Or.inl ⟨by rfl, by (intro W hSw; have s1 := CE.out W hSw; go_simp)⟩) hHeld ?_
                          simp only [List.setIfInBounds_toArray, List.set_cons_zero, List.set_cons_succ]
                          refine takeL 13 227 (v := .slice ua n uc) rfl rfl (by kernel_rfl) (by kernel_rfl) (by kernel_rfl) (by kernel_rfl) (fun _ _ _ h => h) (Or.inl ⟨by rfl, by (intro W hSw; have s1 := CE.out W hSw; go_simp)⟩) hHeld ?_
                          simp only [List.setIfInBounds_toArray, List.set_cons_zero, List.set_cons_succ]
                          refine anyL_one 9 (by kernel_rfl) (upL rfl (fun K hK => ?_))
                          go_simp
                          refine (hRh _ hHeld).mono ?_
                          rintro e w8 ⟨v8, rfl, row8, h8⟩
                          have hb8 := below2 hHeld h8
                          have HR8 := (show Hid _ from row8)
                          clear row8 h8 hRh
                          go_simp
                          refine hK.out _ _ (fun _ => hb8) (fun hHeld0 => ?_)
                          have hHeld := hHeld0 (by decide)
                          clear hHeld0 hK K
                          (try simp only [Act.put, List.setIfInBounds_toArray, List.set_cons_zero, List.set_cons_succ])
                          refine anyL_one 14 (by kernel_rfl) (upL rfl (fun K hK => ?_))
                          go_simp
                          refine (same_any HR8.out (HR9.out.below' hHeld) (by have := HN.out; omega)).mono ?_
                          rintro e w9 ⟨rfl, h9⟩
                          have hb9 := below2 hHeld h9
                          clear h9
                          go_simp
                          refine hK.out _ _ (fun _ => hb9) (fun hHeld0 => ?_)
                          have hHeld := hHeld0 (by decide)
                          clear hHeld0 hK K
                          (try simp only [Act.put, List.setIfInBounds_toArray, List.set_cons_zero, List.set_cons_succ])
                          refine anyL_one 15 (by kernel_rfl) (upL rfl (fun K hK => ?_))
                          go_simp
                          refine hK.out _ _ (fun _ => hHeld) (fun hHeld0 => ?_)
                          have hHeld := hHeld0 (by decide)
                          clear hHeld0 hK K
                          (try simp only [Act.put, List.setIfInBounds_toArray, List.set_cons_zero, List.set_cons_succ])
                          refine anyL_one 16 (by kernel_rfl) (upL rfl (fun K hK => ?_))
                          go_simp
                          refine hK.out _ _ (fun _ => hHeld) (fun hHeld0 => ?_)
                          have hHeld := hHeld0 (by decide)
                          clear hHeld0 hK K
                          (try simp only [Act.put, List.setIfInBounds_toArray, List.set_cons_zero, List.set_cons_succ])
                          refine anyL_one 17 (by kernel_rfl) (upL rfl (fun K hK => ?_))
                          go_simp
                          refine (wakes_any _).mono ?_
                          rintro e w10 ⟨rfl, h10⟩
                          have hb10 := below2 hHeld h10
                          clear h10
                          go_simp
                          refine hK.out _ _ (fun _ => hb10) (fun hHeld0 => ?_)
                          have hHeld := hHeld0 (by decide)
                          clear hHeld0 hK K
                          (try simp only [Act.put, List.setIfInBounds_toArray, List.set_cons_zero, List.set_cons_succ])
                          refine anyL_one 18 (by kernel_rfl) (upL rfl (fun K hK => ?_))
                          go_simp
                          refine hK.out _ _ (fun _ => hHeld) (fun hHeld0 => ?_)
                          have hHeld := hHeld0 (by decide)
                          clear hHeld0 hK K
                          (try simp only [Act.put, List.setIfInBounds_toArray, List.set_cons_zero, List.set_cons_succ])
                          refine anyL_one 19 (by kernel_rfl) (upL rfl (fun K hK => ?_))
                          go_simp
                          refine hK.out _ _ (fun q => absurd rfl q) (fun _ => ?_)
                          clear hK K
                          (try simp only [Act.put, List.setIfInBounds_toArray, List.set_cons_zero, List.set_cons_succ])
                          refine anyL_done (by kernel_rfl) ?_ _
                          go_wp2_with fail
                          go_ret
                          exact ⟨rfl, (HB9.out.below hHeld).bel⟩
                    · have ho2 : ¬ ((i : Int) < (Ot.length : Int)) := by omega
                      as_aux_lemma =>
                        obtain rfl : Lx = Lc := (H.out.2.1.end H.out.1.swap.one.srt HSX.out.1 (by omega)).symm
                        have HB9 : Hid (Tb W wr ta 3 Lx tb 64 Lx q Lx) := H.out.1
                        clear H
                        obtain ⟨M9, v9, t9, r9⟩ := HB9.out.one.ex
                        obtain ⟨ua, uc, eu, _, _⟩ := r9.row.len
                        rw [HN.out] at eu
                        have CE : Hid (∀ V, Below wr.heap.size wr V → V.cell? ⟨q, 0, none⟩ = some (.slice ua n uc)) := fun V hV => by
                          have h1 := (r9.below hV).top
                          rw [(cell_obj (j := 0) h1).1, ← eu]
                          rfl
                        have HR9 : Hid (RowR wr W.heap.size (.slice ua n uc) Lx) := by rw [← eu]; exact r9.row
                        have hRg : ∀ V, Below wr.heap.size wr V → Calls Try.prog 21 #[.pointer (some ⟨ta, 0, none⟩), .string ⟨#[]⟩, .string ⟨#[]⟩, .int .i64 4096] V fun e w' => ∃ v, e = .returned v ∧ RowE w' V.heap.size v Lx ∧ Below V.heap.size V w' := fun V hV => by
                          have h1 := (HB9.out.one.below hV).range ⟨#[]⟩ ⟨#[]⟩ 4096
                          rw [rg_empty, tk_all 4096 _ [] (by have := HN.out; simp; omega), List.nil_append] at h1
                          exact h1.mono fun e w' ⟨v, he, row, _, h2⟩ => ⟨v, he, row, h2⟩
                        have hRh : ∀ V, Below wr.heap.size wr V → Calls Try.prog 21 #[.pointer (some ⟨tb, 0, none⟩), .string ⟨#[]⟩, .string ⟨#[]⟩, .int .i64 4096] V fun e w' => ∃ v, e = .returned v ∧ RowE w' V.heap.size v Lx ∧ Below V.heap.size V w' := fun V hV => by
                          have h1 := (HB9.out.swap.one.below hV).range ⟨#[]⟩ ⟨#[]⟩ 4096
                          rw [rg_empty, tk_all 4096 _ [] (by have := HN.out; simp; omega), List.nil_append] at h1
                          exact h1.mono fun e w' ⟨v, he, row, _, h2⟩ => ⟨v, he, row, h2⟩
                        clear r9 t9 eu
                        go_wp2_with fail
                        refine anyL_begin (S := fun V => Below wr.heap.size wr V) (n := 19) (by kernel_rfl) (below_drew wr) (fun hHeld => ?_)
                        refine takeL 0 214 (v := .pointer (some ⟨ta, 0, none⟩)) rfl rfl (by kernel_rfl) (by kernel_rfl) (by kernel_rfl) (by kernel_rfl) (fun _ _ _ h => h) (Or.inl ⟨by rfl, by (intro W hSw; have s1 := CE.out W hSw; go_simp)⟩) hHeld ?_
                        simp only [List.setIfInBounds_toArray, List.set_cons_zero, List.set_cons_succ]
                        refine takeL 2 216 (v := .pointer (some ⟨q, 0, none⟩)) rfl rfl (by kernel_rfl) (by kernel_rfl) (by kernel_rfl) (by kernel_rfl) (fun _ _ _ h => h) (Or.inl ⟨by rfl, by (intro W hSw; have s1 := CE.out W hSw; go_simp)⟩) hHeld ?_
                        simp only [List.setIfInBounds_toArray, List.set_cons_zero, List.set_cons_succ]
                        refine takeL 3 217 (v := .pointer (some ⟨q, 0, none⟩)) rfl rfl (by kernel_rfl) (by kernel_rfl) (by kernel_rfl) (by kernel_rfl) (fun _ _ _ h => h) (Or.inl ⟨by rfl, by (intro W hSw; have s1 := CE.out W hSw; go_simp)⟩) hHeld ?_
                        simp only [List.setIfInBounds_toArray, List.set_cons_zero, List.set_cons_succ]
                        refine takeL 4 218 (v := .pointer (some ⟨q, 0, none⟩)) rfl rfl (by kernel_rfl) (by kernel_rfl) (by kernel_rfl) (by kernel_rfl) (fun _ _ _ h => h) (Or.inl ⟨by rfl, by (intro W hSw; have s1 := CE.out W hSw; go_simp)⟩) hHeld ?_
                        simp only [List.setIfInBounds_toArray, List.set_cons_zero, List.set_cons_succ]
                        refine takeL 5 219 (v := .slice ua n uc) rfl rfl (by kernel_rfl) (by kernel_rfl) (by kernel_rfl) (by kernel_rfl) (fun _ _ _ h => h) (Or.inl ⟨by rfl, by (intro W hSw; have s1 := CE.out W hSw; go_simp)⟩) hHeld ?_
                        simp only [List.setIfInBounds_toArray, List.set_cons_zero, List.set_cons_succ]
                        refine anyL_one 1 (by kernel_rfl) (upL rfl (fun K hK => ?_))
                        go_simp
                        refine (hRg _ hHeld).mono ?_
                        rintro e w6 ⟨v6, rfl, row6, h6⟩
                        have hb6 := below2 hHeld h6
                        have HR6 := (show Hid _ from row6)
                        clear row6 h6 hRg
                        go_simp
                        refine hK.out _ _ (fun _ => hb6) (fun hHeld0 => ?_)
                        have hHeld := hHeld0 (by decide)
                        clear hHeld0 hK K
                        (try simp only [Act.put, List.setIfInBounds_toArray, List.set_cons_zero, List.set_cons_succ])
                        refine anyL_one 6 (by kernel_rfl) (upL rfl (fun K hK => ?_))
                        go_simp
                        refine (same_any HR6.out (HR9.out.below' hHeld) (by have := HN.out; omega)).mono ?_
                        rintro e w7 ⟨rfl, h7⟩
                        have hb7 := below2 hHeld h7
                        clear h7
                        go_simp
                        refine hK.out _ _ (fun _ => hb7) (fun hHeld0 => ?_)
                        have hHeld := hHeld0 (by decide)
                        clear hHeld0 hK K
                        (try simp only [Act.put, List.setIfInBounds_toArray, List.set_cons_zero, List.set_cons_succ])
                        refine anyL_one 7 (by kernel_rfl) (upL rfl (fun K hK => ?_))
                        go_simp
                        refine hK.out _ _ (fun _ => hHeld) (fun hHeld0 => ?_)
                        have hHeld := hHeld0 (by decide)
                        clear hHeld0 hK K
                        (try simp only [Act.put, List.setIfInBounds_toArray, List.set_cons_zero, List.set_cons_succ])
                        refine takeL 8 222 (v := .pointer (some ⟨tb, 0, none⟩)) rfl rfl (by kernel_rfl) (by kernel_rfl) (by kernel_rfl) (by kernel_rfl) (fun _ _ _ h => h) (Or.inl ⟨by rfl, by (intro W hSw; have s1 := CE.out W hSw; go_simp)⟩) hHeld ?_
                        simp only [List.setIfInBounds_toArray, List.set_cons_zero, List.set_cons_succ]
                        refine takeL 10 224 (v := .pointer (some ⟨q, 0, none⟩)) rfl rfl (by kernel_rfl) (by kernel_rfl) (by kernel_rfl) (by kernel_rfl) (fun _ _ _ h => h) (Or.inl ⟨by rfl, by (intro W hSw; have s1 := CE.out W hSw; go_simp)⟩) hHeld ?_
                        simp only [List.setIfInBounds_toArray, List.set_cons_zero, List.set_cons_succ]
                        refine takeL 11 225 (v := .pointer (some ⟨q, 0, none⟩)) rfl rfl (by kernel_rfl) (by kernel_rfl) (by kernel_rfl) (by kernel_rfl) (fun _ _ _ h => h) (Or.inl ⟨by rfl, by (intro W hSw; have s1 := CE.out W hSw; go_simp)⟩) hHeld ?_
                        simp only [List.setIfInBounds_toArray, List.set_cons_zero, List.set_cons_succ]
                        refine takeL 12 226 (v := .pointer (some ⟨q, 0, none⟩)) rfl rfl (by kernel_rfl) (by kernel_rfl) (by kernel_rfl) (by kernel_rfl) (fun _ _ _ h => h) (Or.inl ⟨by rfl, by (intro W hSw; have s1 := CE.out W hSw; go_simp)⟩) hHeld ?_
                        simp only [List.setIfInBounds_toArray, List.set_cons_zero, List.set_cons_succ]
                        refine takeL 13 227 (v := .slice ua n uc) rfl rfl (by kernel_rfl) (by kernel_rfl) (by kernel_rfl) (by kernel_rfl) (fun _ _ _ h => h) (Or.inl ⟨by rfl, by (intro W hSw; have s1 := CE.out W hSw; go_simp)⟩) hHeld ?_
                        simp only [List.setIfInBounds_toArray, List.set_cons_zero, List.set_cons_succ]
                        refine anyL_one 9 (by kernel_rfl) (upL rfl (fun K hK => ?_))
                        go_simp
                        refine (hRh _ hHeld).mono ?_
                        rintro e w8 ⟨v8, rfl, row8, h8⟩
                        have hb8 := below2 hHeld h8
                        have HR8 := (show Hid _ from row8)
                        clear row8 h8 hRh
                        go_simp
                        refine hK.out _ _ (fun _ => hb8) (fun hHeld0 => ?_)
                        have hHeld := hHeld0 (by decide)
                        clear hHeld0 hK K
                        (try simp only [Act.put, List.setIfInBounds_toArray, List.set_cons_zero, List.set_cons_succ])
                        refine anyL_one 14 (by kernel_rfl) (upL rfl (fun K hK => ?_))
                        go_simp
                        refine (same_any HR8.out (HR9.out.below' hHeld) (by have := HN.out; omega)).mono ?_
                        rintro e w9 ⟨rfl, h9⟩
                        have hb9 := below2 hHeld h9
                        clear h9
                        go_simp
                        refine hK.out _ _ (fun _ => hb9) (fun hHeld0 => ?_)
                        have hHeld := hHeld0 (by decide)
                        clear hHeld0 hK K
                        (try simp only [Act.put, List.setIfInBounds_toArray, List.set_cons_zero, List.set_cons_succ])
                        refine anyL_one 15 (by kernel_rfl) (upL rfl (fun K hK => ?_))
                        go_simp
                        refine hK.out _ _ (fun _ => hHeld) (fun hHeld0 => ?_)
                        have hHeld := hHeld0 (by decide)
                        clear hHeld0 hK K
                        (try simp only [Act.put, List.setIfInBounds_toArray, List.set_cons_zero, List.set_cons_succ])
                        refine anyL_one 16 (by kernel_rfl) (upL rfl (fun K hK => ?_))
                        go_simp
                        refine hK.out _ _ (fun _ => hHeld) (fun hHeld0 => ?_)
                        have hHeld := hHeld0 (by decide)
                        clear hHeld0 hK K
                        (try simp only [Act.put, List.setIfInBounds_toArray, List.set_cons_zero, List.set_cons_succ])
                        refine anyL_one 17 (by kernel_rfl) (upL rfl (fun K hK => ?_))
                        go_simp
                        refine (wakes_any _).mono ?_
                        rintro e w10 ⟨rfl, h10⟩
                        have hb10 := below2 hHeld h10
                        clear h10
                        go_simp
                        refine hK.out _ _ (fun _ => hb10) (fun hHeld0 => ?_)
                        have hHeld := hHeld0 (by decide)
                        clear hHeld0 hK K
                        (try simp only [Act.put, List.setIfInBounds_toArray, List.set_cons_zero, List.set_cons_succ])
                        refine anyL_one 18 (by kernel_rfl) (upL rfl (fun K hK => ?_))
                        go_simp
                        refine hK.out _ _ (fun _ => hHeld) (fun hHeld0 => ?_)
                        have hHeld := hHeld0 (by decide)
                        clear hHeld0 hK K
                        (try simp only [Act.put, List.setIfInBounds_toArray, List.set_cons_zero, List.set_cons_succ])
                        refine anyL_one 19 (by kernel_rfl) (upL rfl (fun K hK => ?_))
                        go_simp
                        refine hK.out _ _ (fun q => absurd rfl q) (fun _ => ?_)
                        clear hK K
                        (try simp only [Act.put, List.setIfInBounds_toArray, List.set_cons_zero, List.set_cons_succ])
                        refine anyL_done (by kernel_rfl) ?_ _
                        go_wp2_with fail
                        go_ret
                        exact ⟨rfl, (HB9.out.below hHeld).bel⟩

set_option maxRecDepth 100000 in
theorem treeOrder_on (v0 v1 v2 : Value) (W : World) {H : Type} {enc : TypeId × Value → H} {base : Nat} {d0 d1 d2 : DataW H} {p0 p1 p2 : List MemPlace} (hv0 : Value.okWide Try.prog W .any base 22 v0) (h0 : DataW.Trod enc Try.prog W 0 (fun _ => true) true 22 v0 d0 p0)
    (hv1 : Value.okWide Try.prog W .any base 51 v1) (h1 : DataW.Trod enc Try.prog W 0 (fun _ => true) true 51 v1 d1 p1)
    (hv2 : Value.okWide Try.prog W .any base 52 v2) (h2 : DataW.Trod enc Try.prog W 0 (fun _ => true) true 52 v2 d2 p2) :
    Calls Try.prog 5 #[v0, v1, v2] W fun e w' => e = .returned (.bool true) ∧ Below W.heap.size W w' := by
  obtain ⟨a, L, cap, rfl, hL, hc, hm, _⟩ := open_steps hv0 h0
  obtain ⟨a1, Kt, cap1, rfl, hK, hc1, hm1, hkb⟩ := open_ints hv1 h1
  obtain ⟨a2, Ot, cap2, rfl, hO, hc2, hm2⟩ := open_texts hv2 h2
  exact order_on a L cap a1 Kt cap1 a2 Ot cap2 W hL (Nat.le_trans hc hm) hK (Nat.le_trans hc1 hm1) hkb hO (Nat.le_trans hc2 hm2)

end Go.Proofs.Ytkfoddblgdmabaa.tr

/- The contracts of key.get and key.Split. -/
import Derived.Test.YtijpnlomfodihaaDoorKGet
namespace Go.Proofs.YtijpnlomfodihaaDoor
open Go.RowKit

def gvV (d : V × Nat × Bool) : Value := .tuple #[d.1.val, .int .i64 (d.2.1 : Int), .bool d.2.2]

theorem getM_0 (r : List UInt8) : getM (0 :: r) = (⟨0, 0, ba []⟩, 1, true) := rfl
theorem getM_1 (r : List UInt8) : getM (1 :: r) = (⟨1, (gB r).1, ba []⟩, 1 + (gB r).2.1, (gB r).2.2) := by
  cases r <;> rfl
theorem getM_2 (r : List UInt8) : getM (2 :: r) = (⟨2, (gI r).1, ba []⟩, 1 + (gI r).2.1, (gI r).2.2) := by
  unfold gI
  by_cases h : r.length < 8
  · simp [getM, h]
  · simp [getM, h]
theorem getM_3 (r : List UInt8) : getM (3 :: r) = (⟨3, 0, ba (gT r).1⟩, 1 + (gT r).2.1, (gT r).2.2) := by
  unfold gT
  cases h : unesc r with
  | none => simp [getM, h]
  | some x => simp [getM, h]
theorem getM_no (c : UInt8) (r : List UInt8) (h0 : c ≠ 0) (h1 : c ≠ 1) (h2 : c ≠ 2) (h3 : c ≠ 3) : getM (c :: r) = (⟨c.toNat, 0, ba []⟩, 1, false) := by
  simp [getM, h0, h1, h2, h3]

set_option maxHeartbeats 800000 in
set_option maxRecDepth 100000 in
theorem kget_any (s : ByteArray) (w : World) (h0 : 0 < s.size) (hs : s.size ≤ 1000000) :
    Calls Tryd.prog 29 #[.string s] w fun e w' => e = .returned (gvV (getM s.data.toList)) ∧ Below w.heap.size w w' := by
  have hS : s.data.toList = s[0] :: (s.extract 1 s.size).data.toList := by
    have := drop_cons s 0 h0
    rw [List.drop_zero] at this
    rw [this, ext_data]
  obtain ⟨D, hD⟩ : ∃ D, getM s.data.toList = D := ⟨_, rfl⟩
  rw [hD]
  rw [hS] at hD
  have hsz : (s.extract 1 s.size).size = s.size - 1 := by simp
  generalize hR : s.extract 1 s.size = R at *
  have cB := fun w => kgetBool_any R w
  have cI := fun w => kgetInt_any R w (by omega)
  have cT := fun w => kgetText_any R w (by omega)
  have hRs : R.size ≤ 1000000 := by omega
  clear hS hsz
  obtain ⟨c, hc⟩ : ∃ c : Nat, s[0].toNat = c := ⟨_, rfl⟩
  have hc2 : c < 256 := by rw [← hc]; exact s[0].toNat_lt
  by_cases c0 : c = 0
  · subst c0
    rw [UInt8.toNat_inj.1 (show s[0].toNat = (0 : UInt8).toNat from hc), getM_0] at hD
    subst hD
    clear cB cI cT
    go_enter Tryd.func29, Tryd.ntmps29
    go_wp2_with fail
    exact bodyPost_ret (v := .tuple #[.agg #[.int .i64 0, .int .i64 0, .string ⟨#[]⟩], .int .i64 1, .bool true]) (by simp [results, Tryd.results29, go_sem]) rfl ⟨rfl, below_alloc1 _ _⟩
  · by_cases c1 : c = 1
    · subst c1
      rw [UInt8.toNat_inj.1 (show s[0].toNat = (1 : UInt8).toNat from hc), getM_1] at hD
      subst hD
      clear cI cT c0
      have hk : (gB R.data.toList).2.1 ≤ 1000000 := by cases R.data.toList <;> simp [gB]
      generalize gB R.data.toList = d at *
      obtain ⟨n, k, b⟩ := d
      simp only [gv] at *
      go_enter Tryd.func29, Tryd.ntmps29
      go_wp2_with fail
      refine (cB _).mono ?_
      rintro e w1 ⟨rfl, rfl⟩
      go_wp2_with fail
      refine bodyPost_ret (v := .tuple #[.agg #[.int .i64 1, .int .i64 n, .string ⟨#[]⟩], .int .i64 (1 + (k : Int)), .bool b]) (by simp [results, Tryd.results29, go_sem]) rfl ⟨?_, below_alloc1 _ _⟩
      simp [gvV, V.val, ba]
    · by_cases c2 : c = 2
      · subst c2
        rw [UInt8.toNat_inj.1 (show s[0].toNat = (2 : UInt8).toNat from hc), getM_2] at hD
        subst hD
        clear cB cT c0 c1
        have hk : (gI R.data.toList).2.1 ≤ 1000000 := by unfold gI; split <;> simp
        generalize gI R.data.toList = d at *
        obtain ⟨n, k, b⟩ := d
        simp only [gv] at *
        go_enter Tryd.func29, Tryd.ntmps29
        go_wp2_with fail
        refine (cI _).mono ?_
        rintro e w1 ⟨rfl, rfl⟩
        go_wp2_with fail
        refine bodyPost_ret (v := .tuple #[.agg #[.int .i64 2, .int .i64 n, .string ⟨#[]⟩], .int .i64 (1 + (k : Int)), .bool b]) (by simp [results, Tryd.results29, go_sem]) rfl ⟨?_, below_alloc1 _ _⟩
        simp [gvV, V.val, ba]
      · by_cases c3 : c = 3
        · subst c3
          rw [UInt8.toNat_inj.1 (show s[0].toNat = (3 : UInt8).toNat from hc), getM_3] at hD
          subst hD
          clear cB cI c0 c1 c2
          have hk : (gT R.data.toList).2.1 ≤ 1000000 := by
            unfold gT
            split
            · simp
            · have : R.data.toList.length = R.size := by simp
              simp only
              omega
          generalize gT R.data.toList = d at *
          obtain ⟨T, k, b⟩ := d
          simp only [gvT] at *
          generalize ba T = Z at *
          go_enter Tryd.func29, Tryd.ntmps29
          go_wp2_with fail
          refine (cT _).mono ?_
          rintro e w1 ⟨rfl, hb⟩
          have k0 := hb.cell (p := ⟨w.heap.size, 0, none⟩) (by simp)
          have k1 := hb.cell (p := ⟨w.heap.size, 1, none⟩) (by simp)
          have k2 := hb.cell (p := ⟨w.heap.size, 2, none⟩) (by simp)
          have f0 := hb.frozen (p := ⟨w.heap.size, 0, none⟩) (by simp)
          have f1 := hb.frozen (p := ⟨w.heap.size, 1, none⟩) (by simp)
          have f2 := hb.frozen (p := ⟨w.heap.size, 2, none⟩) (by simp)
          simp at k0 k1 k2 f0 f1 f2
          have hz : w.heap.size < w1.heap.size := by have := hb.size; simp at this; omega
          have hw1 : Below w.heap.size w w1 := below2 (below_alloc1 _ _) hb
          go_wp2_with fail
          refine bodyPost_ret (v := .tuple #[.agg #[.int .i64 3, .int .i64 0, .string Z], .int .i64 (1 + (k : Int)), .bool b]) (by simp [results, Tryd.results29, go_sem, k0, k1, k2]) rfl ⟨?_, ?_⟩
          · simp [gvV, V.val]
          · exact (((hw1.setCell (p := ⟨w.heap.size, 2, none⟩) (Nat.le_refl _) _).setCell (p := ⟨w.heap.size, 0, none⟩) (Nat.le_refl _) _).setCell (p := ⟨w.heap.size, 1, none⟩) (Nat.le_refl _) _).setCell (p := ⟨w.heap.size, 2, none⟩) (Nat.le_refl _) _
        · rw [getM_no s[0] R.data.toList (fun e => c0 (by rw [← hc, e]; rfl)) (fun e => c1 (by rw [← hc, e]; rfl)) (fun e => c2 (by rw [← hc, e]; rfl)) (fun e => c3 (by rw [← hc, e]; rfl)), hc] at hD
          subst hD
          clear cB cI cT
          have d0 : ((c : Int) == 0) = false := by rw [beq_eq_false_iff_ne]; omega
          have d1 : ((c : Int) == 1) = false := by rw [beq_eq_false_iff_ne]; omega
          have d2 : ((c : Int) == 2) = false := by rw [beq_eq_false_iff_ne]; omega
          have d3 : ((c : Int) == 3) = false := by rw [beq_eq_false_iff_ne]; omega
          clear c0 c1 c2 c3
          go_enter Tryd.func29, Tryd.ntmps29
          go_wp2_with fail
          exact bodyPost_ret (v := .tuple #[.agg #[.int .i64 (c : Int), .int .i64 0, .string ⟨#[]⟩], .int .i64 1, .bool false]) (by simp [results, Tryd.results29, go_sem]) rfl ⟨rfl, below_alloc1 _ _⟩

/-- The values of a key, and the error's number. -/
noncomputable def spL (s : List UInt8) : List V := if s.length ≤ 4096 then (spl s).getD [] else []
noncomputable def spE (s : List UInt8) : Int := if s.length ≤ 4096 then (if (spl s).isSome then 0 else 11) else 2

/-- What Split answers. -/
def SpGot (w w' : World) (e : Ending) (L : List V) (E : Int) : Prop :=
  ∃ a cap, e = .returned (.tuple #[.slice a L.length cap, .int .i64 E]) ∧ SlV w' a L ∧ (a = none → cap = 0) ∧ Below w.heap.size w w'

theorem SpGot.no {w w' : World} {E : Int} (h : Below w.heap.size w w') : SpGot w w' (.returned (.tuple #[.slice none 0 0, .int .i64 E])) [] E := ⟨none, 0, rfl, Or.inl rfl, fun _ => rfl, h⟩

theorem sp_stuck {S : List UInt8} {A : List V} {r : List UInt8} (h : S.length ≤ 4096) (hS : S = kvs A ++ r) (ha : Fit A) (hr : r ≠ []) (hd : dec1 r = none) : spL S = [] ∧ spE S = 11 := by
  have := spl_stuck ha hr hd
  rw [← hS] at this
  unfold spL spE
  rw [this, if_pos h, if_pos h]
  exact ⟨rfl, rfl⟩

theorem sp_end {S : List UInt8} {A : List V} (h : S.length ≤ 4096) (hS : S = kvs A) (ha : Fit A) : spL S = A ∧ spE S = 0 := by
  have := spl_kvs ha
  rw [← hS] at this
  unfold spL spE
  rw [this, if_pos h, if_pos h]
  exact ⟨rfl, rfl⟩

/-- The length of a text among values. -/
def szOf : Value → Nat
  | .string b => b.size
  | _ => 0

theorem getM_in (l : List UInt8) (h : l ≠ []) : 1 ≤ (getM l).2.1 := by
  cases l with
  | nil => exact absurd rfl h
  | cons c r =>
    simp only [getM]
    split
    · simp
    · split
      · cases r <;> simp
      · split
        · split <;> simp
        · split
          · split <;> simp
          · simp

theorem getM_le (l : List UInt8) (h : (getM l).2.2 = true) : (getM l).2.1 ≤ l.length := by
  cases l with
  | nil => simp [getM] at h
  | cons c r =>
    by_cases c0 : c = 0
    · subst c0; rw [getM_0]; simp
    · by_cases c1 : c = 1
      · subst c1
        rw [getM_1] at h ⊢
        cases r with
        | nil => simp [gB] at h
        | cons b r => simp [gB]
      · by_cases c2 : c = 2
        · subst c2
          rw [getM_2] at h ⊢
          unfold gI at h ⊢
          split at h
          · simp at h
          · rename_i hx
            rw [if_neg hx]
            simp only [List.length_cons]
            omega
        · by_cases c3 : c = 3
          · subst c3
            rw [getM_3] at h ⊢
            unfold gT at h ⊢
            cases hu : unesc r with
            | none => rw [hu] at h; simp at h
            | some x => simp only [List.length_cons]; omega
          · rw [getM_no c r c0 c1 c2 c3] at h
            simp at h

set_option maxHeartbeats 1600000 in
set_option maxRecDepth 100000 in
theorem split_small (s : ByteArray) (w : World) (hs : s.size ≤ 4096) :
    Calls Tryd.prog 15 #[.string s] w fun e w' => SpGot w w' e (spL s.data.toList) (spE s.data.toList) := by
  obtain ⟨i0, hi, hz0, hz1, hz2⟩ := info_parts Tryd.info43
  have hl : s.data.toList.length ≤ 4096 := by simpa using hs
  obtain ⟨S, hS⟩ : ∃ S, S = s.data.toList := ⟨_, rfl⟩
  rw [← hS] at hl ⊢
  have HS : Hid (S = s.data.toList) := hS
  have HL : Hid (S.length ≤ 4096) := hl
  clear hS hl
  go_enter Tryd.func15, Tryd.ntmps15
  go_wp2_with fail
  go_loopw [0, 4] (fun ss sl wr => ∃ (R : ByteArray) (A : List V), ss = .string R ∧ VRow w wr sl A ∧ Hid (Fit A) ∧ Hid (S = kvs A ++ R.data.toList) ∧ A.length + R.size ≤ 4096) (fun ss _ _ => szOf ss)
  case atStart => exact ⟨s, [], rfl, ⟨World.ownsRow_nil _ _ _ _, Below.refl _ _⟩, show Fit [] from fun v hv => by simp at hv, show S = kvs [] ++ s.data.toList from by rw [HS.out]; rfl, by simpa using hs⟩
  case round =>
    obtain ⟨R, A, rfl, hat, HF, HE, hlen⟩ := hrel
    clear HS
    by_cases h0 : R.size = 0
    · obtain rfl := size_zero R h0
      clear h0
      obtain ⟨a, cap, hv, hsl, hn⟩ := owns_slV hat.own
      subst hv
      go_wp2_with fail
      refine bodyPost_ret (v := .tuple #[.slice a A.length cap, .int .i64 0]) (by simp [results, Tryd.results15, go_sem]) rfl ?_
      obtain ⟨q1, q2⟩ := sp_end HL.out (by rw [HE.out]; simp) HF.out
      rw [q1, q2]
      exact ⟨a, cap, rfl, hsl, hn, hat.root⟩
    · have hne := list_some R h0
      have hnl : R.data.toList ≠ [] := fun e => h0 (by have := congrArg List.length e; simpa using this)
      have cG := fun w => kget_any R w (by omega) (by omega)
      have cF := fun w => kfits_any (getM R.data.toList).1 w
      have hin := getM_in _ hnl
      have hle := getM_le R.data.toList
      have hd : dec1 R.data.toList = if (getM R.data.toList).2.2 && kfit (getM R.data.toList).1 then some ((getM R.data.toList).1, R.data.toList.drop (getM R.data.toList).2.1) else none := rfl
      have hbk := fun v t => dec1_back (s := R.data.toList) (v := v) (t := t)
      rw [hd] at hbk
      have hstk := fun h => sp_stuck HL.out HE.out HF.out hnl (hd.trans h)
      clear hd
      generalize getM R.data.toList = d at *
      obtain ⟨⟨kk, n, t⟩, sz, ok⟩ := d
      simp only [gvV, V.val] at *
      cases ok with
      | false =>
        obtain ⟨q1, q2⟩ := hstk rfl
        have HQ : Hid (spL S = [] ∧ spE S = 11) := ⟨q1, q2⟩
        clear hstk hbk q1 q2 cF hin hle
        go_wp2_with fail
        refine (cG _).mono ?_
        rintro e w1 ⟨rfl, hb1⟩
        go_wp2_with fail
        refine bodyPost_ret (v := .tuple #[.slice none 0 0, .int .i64 11]) (by simp [results, Tryd.results15, go_sem]) rfl ?_
        rw [HQ.out.1, HQ.out.2]
        exact SpGot.no (below2 hat.root (below2 hb1 (below_alloc1 _ _)))
      | true =>
        cases hk : kfit ⟨kk, n, t⟩ with
        | false =>
          rw [hk] at cF hstk
          obtain ⟨q1, q2⟩ := hstk rfl
          have HQ : Hid (spL S = [] ∧ spE S = 11) := ⟨q1, q2⟩
          clear hstk hbk q1 q2 hin hk hle
          go_wp2_with fail
          refine (cG _).mono ?_
          rintro e w1 ⟨rfl, hb1⟩
          go_wp2_with fail
          refine (cF _).mono ?_
          rintro e w2 ⟨rfl, hb2⟩
          go_wp2_with fail
          refine bodyPost_ret (v := .tuple #[.slice none 0 0, .int .i64 11]) (by simp [results, Tryd.results15, go_sem]) rfl ?_
          rw [HQ.out.1, HQ.out.2]
          exact SpGot.no (below2 hat.root (below3 hb1 (below_alloc1 _ _) hb2))
        | true =>
          rw [hk] at cF hbk
          obtain ⟨g1, g2, g3⟩ := hbk _ _ rfl
          have hszR : sz ≤ R.size := by simpa using hle rfl
          have HF2 : Hid (Fit (A ++ [⟨kk, n, t⟩])) := HF.out.append (fun v hv => by
            obtain rfl : v = ⟨kk, n, t⟩ := by simpa using hv
            exact ⟨g2, g3⟩)
          have HE2 : Hid (S = kvs (A ++ [⟨kk, n, t⟩]) ++ (R.extract sz R.size).data.toList) := by
            show S = _
            rw [HE.out, kvs_append, ext_data]
            conv => lhs; rw [g1]
            simp [kvs]
          clear hstk hbk hk g1 g2 g3 HF HE hle
          go_wp2_with fail
          refine (cG _).mono ?_
          rintro e w1 ⟨rfl, hb1⟩
          go_wp2_with fail
          refine (cF _).mono ?_
          rintro e w2 ⟨rfl, hb2⟩
          have k0 := hb2.cell (p := ⟨w1.heap.size, 0, none⟩) (by simp)
          have k1 := hb2.cell (p := ⟨w1.heap.size, 1, none⟩) (by simp)
          have k2 := hb2.cell (p := ⟨w1.heap.size, 2, none⟩) (by simp)
          simp at k0 k1 k2
          have hat2 := (((hat.below hb1).alloc (.cells #[.int .i64 kk, .int .i64 n, .string t] 43)).below hb2).alloc (.cells #[.int .i64 kk, .int .i64 n, .string t] 43)
          have hA : A.length ≤ 4096 := by omega
          go_wp2_with (at_builtin; refine wpList_append_own _ rfl (.tmp 26) (.tmp 28) 22 rfl w.heap.size 43 i0 (.agg #[.int .i64 0, .int .i64 0, .string ⟨#[]⟩]) 3 32 Tryd.underlying22 hi hz0 hz1 hz2 rfl (by decide) _ A.length (cellsK A) rfl hat2.own ⟨w2.heap.size, 0, none⟩ 1 1 (V.cells ⟨kk, n, t⟩) rfl rfl (newV (p := ⟨kk, n, t⟩) rfl) (vcells_one _) (by unfold maxLen; omega) (by omega) hat2.root.size ?_; intro v3 w3 hown3 hgrow3 hnil3)
          go_roundw
          case rel => exact ⟨R.extract sz R.size, A ++ [⟨kk, n, t⟩], rfl, hat2.push hgrow3 hown3, HF2, HE2, by simp; omega⟩
          case measure => simp [szOf]; omega

theorem split_any (s : ByteArray) (w : World) (hs : s.size ≤ 281474976710656) :
    Calls Tryd.prog 15 #[.string s] w fun e w' => SpGot w w' e (spL s.data.toList) (spE s.data.toList) := by
  by_cases h : s.size ≤ 4096
  · exact split_small s w h
  · have hl : ¬ s.data.toList.length ≤ 4096 := by simpa using h
    unfold spL spE
    rw [if_neg hl, if_neg hl]
    clear hl
    go_enter Tryd.func15, Tryd.ntmps15
    go_wp2_with fail
    exact bodyPost_ret (v := .tuple #[.slice none 0 0, .int .i64 2]) (by simp [results, Tryd.results15, go_sem]) rfl (SpGot.no (Below.refl _ _))

end Go.Proofs.YtijpnlomfodihaaDoor

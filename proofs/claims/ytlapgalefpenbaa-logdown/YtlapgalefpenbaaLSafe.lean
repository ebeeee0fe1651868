/- LogSafe: the walk. -/
import Derived.Test.YtlapgalefpenbaaLArgOpen
namespace Go.Proofs.Ytlapgalefpenbaa
open Go.RowKit

/-- A row beside a log that is made longer. -/
theorem Lw.fr {W w w' : World} {lb g gs n b : Nat} {bs : ByteArray} {recs : List ByteArray} {Q : List ByteArray → Prop} {X : Nat → Prop} {row : Option Nat} (h : Lw W w lb g gs n b bs recs Q X) (hg : Fr (fun k => row = some k) w w') (hX : ∀ k, row = some k → X k) (hW : ∀ k, row = some k → W.heap.size ≤ k) :
    Lw W w' lb g gs n b bs recs Q (fun k => X k ∨ (w.heap.size ≤ k ∧ k < w'.heap.size)) := by
  obtain ⟨hv, rv, D, S, l, h1, h2, h3, h4, h5, h6, h7, h8, h9, h10⟩ := h
  refine ⟨hv, rv, D, S, l.kept (fun k r => hg.block k (l.lt k r) (fun e => (h10 k (hX k e)).2 r)), hg.below h1 h1.size hW, h2, h3, h4, h5, h6, h7, h8, h9, ?_⟩
  rintro k (x | ⟨x, y⟩)
  · exact ⟨Nat.lt_of_lt_of_le (h10 k x).1 hg.size, (h10 k x).2⟩
  · exact ⟨y, fun r => by have := l.lt k r; omega⟩

/-- append of one text to a row, in a plain region. -/
theorem wpList_append_row {ops : Array Oper} {rest : List Oper} {o : Oper} {ac : Act} {Q : Exit → Act → World → Prop} (w : World) (hgd : o.guard = none) (s x : Operand)
    (ho : o.op = .call { callee := .builtin .append, args := #[s, x], argTypes := #[33, 33] })
    (B : Nat) (rv : Value) (L : List ByteArray) (hs : ac.eval s = rv) (hrow : Row w B rv L) (a : Nat) (y : ByteArray) (hx : ac.eval x = .slice (some ⟨a, 0, none⟩) 1 1) (hy : w.cell? ⟨a, 0, none⟩ = some (.string y)) (hlen : L.length ≤ 1000000) (hB : B ≤ w.heap.size)
    (h : ∀ v' w', Row w' B v' (L ++ [y]) → Fr (fun k => rv.ownBlock = some k) w w' → (∀ k, v'.ownBlock = some k → rv.ownBlock = some k ∨ w.heap.size ≤ k) → wpList Try.prog ops Q rest (ac.put o.dst v') w') : wpList Try.prog ops Q (o :: rest) ac w := by
  refine wpList_plain hgd fun K hK => ?_
  obtain ⟨v', w', hr, h2, h3, h4, _⟩ := run_append_row w B o.type rv L hrow a y hy hlen hB
  unfold Oper.wp execOp
  simp only [ho, resolve, invoke, builtin, Sem.run_bind, Sem.run_pure, Result.andThen_ok, List.map_toArray, List.map_cons, List.map_nil, hs, hx, hr]
  exact hK _ _ (h v' w' h2 h3 h4)

theorem small_secs {t : ByteArray} (h : t.size ≤ 499) : secs t = 1 := by unfold secs; omega
theorem secsL_small (L : List ByteArray) (h : ∀ y ∈ L, y.size ≤ 499) : secsL L = L.length := by
  induction L with
  | nil => rfl
  | cons t L ih =>
    rw [secsL, small_secs (h t (List.mem_cons_self ..)), ih (fun y hy => h y (List.mem_cons_of_mem _ hy)), List.length_cons]
    omega

set_option maxHeartbeats 1600000 in
set_option maxRecDepth 100000 in
theorem logSafe_many (v0 : Value) (a1 : Option Addr) (n1 c1 : Nat) (w : World) (h : 20 < n1) :
    Calls Try.prog 5 #[v0, .slice a1 n1 c1] w fun e w' => e = .returned (.bool true) ∧ Below w.heap.size w w' := by
  have h2 : (20 : Int) < (n1 : Int) := by omega
  go_enter Try.func5, Try.ntmps5
  go_wp2_with fail
  refine (new_any 64 w (by omega) (by omega)).mono ?_
  rintro e w3 ⟨g, gs, rfl, d3, b3⟩
  go_wp2_with fail
  refine (play_format d3 b3 (by omega) (by omega) ⟨#[]⟩ (by show 1 ≤ areaN 64; unfold areaN; omega)).mono ?_
  rintro e w4 ⟨lb, rfl, l4⟩
  go_wp2_with fail
  refine (wakes_any _).mono ?_
  rintro e w5 ⟨rfl, b5⟩
  go_wp2_with fail
  go_ret
  exact ⟨rfl, below2 l4.bel b5⟩

set_option maxHeartbeats 12800000 in
set_option maxRecDepth 100000 in
theorem logSafe_few (a0 : Option Addr) (L : List ByteArray) (c0 : Nat) (a1 : Option Addr) (K : List KI) (c1 : Nat) (w : World) (hL : SlG w a0 1 (fun s => [.string s]) L) (hLc : L.length ≤ c0) (hK : SlG w a1 1 KI.cells K) (hok : ∀ k ∈ K, k.ok w) (hK20 : K.length ≤ 20) :
    Calls Try.prog 5 #[.slice a0 L.length c0, .slice a1 K.length c1] w fun e w' => e = .returned (.bool true) ∧ Below w.heap.size w w' := by
  have h2 : ¬ (20 : Int) < (K.length : Int) := by omega
  have hA : areaN 64 = 30 := rfl
  go_enter Try.func5, Try.ntmps5
  go_wp2_with fail
  refine (new_any 64 w (by omega) (by omega)).mono ?_
  rintro e w3 ⟨g, gs, rfl, d3, b3⟩
  go_wp2_with fail
  refine (play_format d3 b3 (by omega) (by omega) ⟨#[]⟩ (by show 1 ≤ areaN 64; omega)).mono ?_
  rintro e w4 ⟨lb, rfl, l4⟩
  rw [show secs (⟨#[]⟩ : ByteArray) + 5 = 6 from rfl] at l4
  clear d3 b3
  go_wp2_with fail
  go_loopw [7, 9, 10] (fun sj sa si wr => ∃ (i b lb : Nat) (va : Value) (Q : List ByteArray → Prop), i ≤ L.length ∧ i ≤ 20 ∧ sj = .pointer (some ⟨lb, 0, none⟩) ∧ va = sa ∧ si = .int .i64 (i : Int) ∧ b ≤ 20 + 10 * i ∧ (∀ y ∈ L.take i, y.size ≤ 499) ∧ Row wr w.heap.size va (L.take i) ∧ Lw w wr lb g gs 64 b ⟨#[]⟩ (L.take i) Q (fun k => va.ownBlock = some k)) (fun _ _ si _ => L.length - (intOf si).toNat)
  case atStart => exact ⟨0, 6, lb, _, _, Nat.zero_le _, by omega, rfl, rfl, rfl, by omega, by simp, Or.inl ⟨rfl, rfl⟩, l4.less (fun k x => by cases x)⟩
  case round =>
    clear l4
    obtain ⟨i, b, lb, va, Q, hi1, hi2, rfl, hva, rfl, hb, hsm, hown, lr⟩ := hrel
    subst hva
    by_cases hlt : i < L.length ∧ i < 20
    · obtain ⟨hlt, h20⟩ := hlt
      have hlt2 : (i : Int) < (L.length : Int) := by omega
      have h202 : (i : Int) < 20 := by omega
      have hx : L[i]? = some L[i] := by simp [hlt]
      generalize L[i] = x at hx
      rcases hL with hL | ⟨bl, off, rfl, hbl, hrd⟩
      · rw [hL] at hlt; simp at hlt
      have k0 : w.cell? ⟨bl, off + i, none⟩ = some (.string x) := by have := hrd i x hx 0 _ rfl; rwa [Nat.mul_one, Nat.add_zero] at this
      have kr : wr.cell? ⟨bl, off + i, none⟩ = some (.string x) := (lr.bel.cell (p := ⟨bl, off + i, none⟩) hbl).trans k0
      have hlc2 : (L.length : Int) ≤ (c0 : Int) := by omega
      by_cases h499 : 499 < x.size
      · have h4992 : (499 : Int) < (x.size : Int) := by omega
        go_wp2_with fail
        refine (wakes_any _).mono ?_
        rintro e w6 ⟨rfl, b6⟩
        go_wp2_with fail
        go_ret
        exact ⟨rfl, below2 lr.bel b6⟩
      · have h4992 : ¬ (499 : Int) < (x.size : Int) := by omega
        have hsx := small_secs (t := x) (by omega)
        have hsl := secsL_small (L.take i) hsm
        have hlen : (L.take i).length = i := by rw [List.length_take]; omega
        have htk : L.take (i + 1) = L.take i ++ [x] := by rw [List.take_add_one, hx]; rfl
        have hsm2 : ∀ y ∈ L.take (i + 1), y.size ≤ 499 := by
          rw [htk]
          intro y hy
          rcases List.mem_append.1 hy with q | q
          · exact hsm y q
          · simp at q; subst q; omega
        have cAp := play_append lr x (by rw [secsL, show secs (⟨#[]⟩ : ByteArray) = 1 from rfl, hsl, hsx, hA, hlen]; omega) (by rw [hsx]; omega)
        rw [hsx, ← htk] at cAp
        go_wp2_with fail
        refine cAp.mono ?_
        rintro e w6 ⟨rfl, l6, kp6⟩
        go_wp2_with fail
        refine (play_flush l6 (by omega)).mono ?_
        rintro e w7 ⟨rfl, l7, kp7⟩
        have kx7 : w7.cell? ⟨bl, off + i, none⟩ = some (.string x) := (l7.bel.cell (p := ⟨bl, off + i, none⟩) hbl).trans k0
        have hrow7 : Row w7 w.heap.size va (L.take i) := hown.kept (fun k e => (kp7.2 k e).trans (kp6.2 k e))
        have b8 := below_alloc1 w7 (.cells #[.string x] 9)
        have hrow8 : Row (w7.alloc (.cells #[.string x] 9)) w.heap.size va (L.take i) := hrow7.kept (fun k e => b8.block k (hrow7.blk e).2)
        have l8 := l7.below b8
        have hH8 : w.heap.size ≤ (w7.alloc (.cells #[.string x] 9)).heap.size := Nat.le_trans l7.bel.size b8.size
        have fin9 : ∀ v9 w9, Row w9 w.heap.size v9 (L.take i ++ [x]) → Fr (fun k => va.ownBlock = some k) (w7.alloc (.cells #[.string x] 9)) w9 → (∀ k, v9.ownBlock = some k → va.ownBlock = some k ∨ (w7.alloc (.cells #[.string x] 9)).heap.size ≤ k) → Hid (Row w9 w.heap.size v9 (L.take (i + 1))) ∧ Lw w w9 lb g gs 64 (b + (1 + 4) + 1) ⟨#[]⟩ (L.take (i + 1)) (fun _ => False) (fun k => v9.ownBlock = some k) := by
          intro v9 w9 r9 f9 g9
          refine ⟨by rw [htk]; exact r9, (l8.fr f9 (fun k e => Or.inl e) (fun k e => (hrow8.blk e).1)).less (fun k e => ?_)⟩
          rcases g9 k e with q | q
          · exact Or.inl (Or.inl q)
          · exact Or.inr ⟨q, (r9.blk e).2⟩
        have HLen : Hid ((L.take i).length ≤ 1000000 ∧ (L.take (i + 1)).length ≤ 1000000) := ⟨by rw [hlen]; omega, by rw [List.length_take]; omega⟩
        have HH8 : Hid (w.heap.size ≤ (w7.alloc (.cells #[.string x] 9)).heap.size) := hH8
        have HR8 : Hid (Row (w7.alloc (.cells #[.string x] 9)) w.heap.size va (L.take i)) := hrow8
        clear hown hrow7 hrow8 l8 b8 hH8 cAp hsl hsx hrd hx htk lr l6 kp6 kp7
        by_cases hiK : i < K.length
        · have hiK2 : (i : Int) < (K.length : Int) := by omega
          have hkx : K[i]? = some K[i] := by simp [hiK]
          generalize K[i] = q at hkx
          have hq := hok q (List.mem_of_getElem? hkx)
          rcases hK with hK | ⟨kb, ko, rfl, hkb, hkr⟩
          · rw [hK] at hiK; simp at hiK
          have kk : w.cell? ⟨kb, ko + i, none⟩ = some (.slice q.a q.L.length q.c) := by have := hkr i q hkx 0 _ rfl; rwa [Nat.mul_one, Nat.add_zero] at this
          have fin10 : ∀ w9, Below w.heap.size w w9 → w9.cell? ⟨kb, ko + i, none⟩ = some (.slice q.a q.L.length q.c) := fun w9 b => (b.cell (p := ⟨kb, ko + i, none⟩) hkb).trans kk
          by_cases h1000 : q.L.length ≤ 1000
          · have h10002 : (q.L.length : Int) ≤ 1000 := by omega
            go_wp2_with (first
              | (at_builtin; refine wpList_append_row _ rfl (.tmp 71) (.tmp 76) rfl w.heap.size va (L.take i) rfl HR8.out w7.heap.size x rfl (by go_simp) HLen.out.1 HH8.out ?_; intro v9 w9 r9 f9 g9; obtain ⟨R9, l9⟩ := fin9 v9 w9 r9 f9 g9; clear r9 f9 g9; have kk9 := fin10 w9 l9.bel; have kkA := ((below_alloc1 w9 (.cells #[] 3)).cell (p := ⟨kb, ko + i, none⟩) (Nat.lt_of_lt_of_le hkb l9.bel.size)).trans kk9)
              | (at_builtin; refine wpList_copy_ints rfl (.tmp 91) (.tmp 95) rfl w9 w9.heap.size rfl rfl q.a q.L q.c rfl (hq.sl.kept l9.bel) hq.nil hq.len (by omega) ?_; intro cb cc wk bk hcb hcb2 slk))
            have lk := l9.below bk
            refine (play_crash lk (by omega) q.L (some ⟨cb, 0, none⟩) cc slk (by intro x1 x2 e _; cases e; exact Or.inr (Or.inr ⟨hcb, hcb2⟩))).mono ?_
            rintro e wm ⟨rfl, dm, km⟩
            go_wp2_with fail
            refine (play_open dm (by omega)).mono ?_
            rintro e wn ⟨ln, bsn, rn, rfl, hTn, lno, kn⟩
            have hTn2 : bsn = (⟨#[]⟩ : ByteArray) ∧ rn = L.take (i + 1) := by
              rcases hTn with h | h
              · injection h with h1 h2
                exact ⟨h1, h2⟩
              · exact h.elim
            obtain ⟨rfl, rfl⟩ := hTn2
            have l10 := lno.less (Y := fun k => v9.ownBlock = some k) (fun k e => Or.inl e)
            have R10 : Hid (Row wn w.heap.size v9 (L.take (i + 1))) := R9.out.kept (fun k e => (kn.2 k (Or.inl e)).trans ((km.2 k (Or.inl e)).trans (bk.block k (R9.out.blk e).2)))
            clear lno dm km kn lk hTn slk hcb hcb2
            go_wp2_with fail
            refine (play_records l10).mono ?_
            rintro e wA ⟨vA, rfl, rA, bA⟩
            have lA := l10.below bA
            have rB : Row wA w.heap.size v9 (L.take (i + 1)) := R10.out.kept (fun k e => bA.block k (R10.out.blk e).2)
            go_wp2_with fail
            refine (textsEq_any rA rB HLen.out.2).mono ?_
            rintro e wB ⟨rfl, bB⟩
            have lB := lA.below bB
            go_wp2_with fail
            refine (play_base lB).mono ?_
            rintro e wC ⟨rfl, bC⟩
            have lC := (lB.below bC).less (Y := fun k => v9.ownBlock = some k) (fun k e => Or.inl (Or.inl (Or.inl e)))
            have rC : Row wC w.heap.size v9 (L.take (i + 1)) := rB.kept (fun k e => (bC.block k (Nat.lt_of_lt_of_le (rB.blk e).2 bB.size)).trans (bB.block k (rB.blk e).2))
            go_wp2_with fail
            go_roundw
            case rel => exact ⟨i + 1, _, ln, v9, _, by omega, by omega, rfl, rfl, by go_num, by omega, hsm2, rC, lC⟩
            case measure => simp [intOf]; omega
          · have h10002 : ¬ (q.L.length : Int) ≤ 1000 := by omega
            go_wp2_with (at_builtin; refine wpList_append_row _ rfl (.tmp 71) (.tmp 76) rfl w.heap.size va (L.take i) rfl HR8.out w7.heap.size x rfl (by go_simp) HLen.out.1 HH8.out ?_; intro v9 w9 r9 f9 g9; obtain ⟨R9, l9⟩ := fin9 v9 w9 r9 f9 g9; clear r9 f9 g9; have kk9 := fin10 w9 l9.bel)
            refine (play_records l9).mono ?_
            rintro e wA ⟨vA, rfl, rA, bA⟩
            have lA := l9.below bA
            have rB : Row wA w.heap.size v9 (L.take (i + 1)) := R9.out.kept (fun k e => bA.block k (R9.out.blk e).2)
            go_wp2_with fail
            refine (textsEq_any rA rB HLen.out.2).mono ?_
            rintro e wB ⟨rfl, bB⟩
            have lB := lA.below bB
            go_wp2_with fail
            refine (play_base lB).mono ?_
            rintro e wC ⟨rfl, bC⟩
            have lC := (lB.below bC).less (Y := fun k => v9.ownBlock = some k) (fun k e => Or.inl (Or.inl (Or.inl e)))
            have rC : Row wC w.heap.size v9 (L.take (i + 1)) := rB.kept (fun k e => (bC.block k (Nat.lt_of_lt_of_le (rB.blk e).2 bB.size)).trans (bB.block k (rB.blk e).2))
            go_wp2_with fail
            go_roundw
            case rel => exact ⟨i + 1, _, lb, v9, _, by omega, by omega, rfl, rfl, by go_num, by omega, hsm2, rC, lC⟩
            case measure => simp [intOf]; omega
        · have hiK2 : ¬ (i : Int) < (K.length : Int) := by omega
          go_wp2_with (at_builtin; refine wpList_append_row _ rfl (.tmp 71) (.tmp 76) rfl w.heap.size va (L.take i) rfl HR8.out w7.heap.size x rfl (by go_simp) HLen.out.1 HH8.out ?_; intro v9 w9 r9 f9 g9; obtain ⟨R9, l9⟩ := fin9 v9 w9 r9 f9 g9; clear r9 f9 g9)
          refine (play_records l9).mono ?_
          rintro e wA ⟨vA, rfl, rA, bA⟩
          have lA := l9.below bA
          have rB : Row wA w.heap.size v9 (L.take (i + 1)) := R9.out.kept (fun k e => bA.block k (R9.out.blk e).2)
          go_wp2_with fail
          refine (textsEq_any rA rB HLen.out.2).mono ?_
          rintro e wB ⟨rfl, bB⟩
          have lB := lA.below bB
          go_wp2_with fail
          refine (play_base lB).mono ?_
          rintro e wC ⟨rfl, bC⟩
          have lC := (lB.below bC).less (Y := fun k => v9.ownBlock = some k) (fun k e => Or.inl (Or.inl (Or.inl e)))
          have rC : Row wC w.heap.size v9 (L.take (i + 1)) := rB.kept (fun k e => (bC.block k (Nat.lt_of_lt_of_le (rB.blk e).2 bB.size)).trans (bB.block k (rB.blk e).2))
          go_wp2_with fail
          go_roundw
          case rel => exact ⟨i + 1, _, lb, v9, _, by omega, by omega, rfl, rfl, by go_num, by omega, hsm2, rC, lC⟩
          case measure => simp [intOf]; omega
    · have hend : ¬ (i : Int) < (L.length : Int) ∨ ((i : Int) < (L.length : Int) ∧ ¬ (i : Int) < 20) := by omega
      rcases hend with he | ⟨he, he2⟩
      all_goals go_wp2_with fail
      all_goals refine (wakes_any _).mono ?_
      all_goals rintro e w6 ⟨rfl, b6⟩
      all_goals go_wp2_with fail
      all_goals go_ret
      all_goals exact ⟨rfl, below2 lr.bel b6⟩

set_option maxRecDepth 100000 in
theorem logSafe_any {H : Type} {enc : TypeId × Value → H} {base : Nat} {d0 d1 : DataW H} {p0 p1 : List MemPlace} (v0 v1 : Value) (w : World) (hv0 : Value.okWide Try.prog w .any base 33 v0) (h0 : DataW.Trod enc Try.prog w 0 (fun _ => true) true 33 v0 d0 p0) (hv1 : Value.okWide Try.prog w .any base 55 v1) (h1 : DataW.Trod enc Try.prog w 0 (fun _ => true) true 55 v1 d1 p1) :
    Calls Try.prog 5 #[v0, v1] w fun e w' => e = .returned (.bool true) ∧ Below w.heap.size w w' := by
  obtain ⟨a0, L, c0, rfl, r1, r2, _⟩ := open_texts hv0 h0
  obtain ⟨a1, K, c1, rfl, s1, s2, _, _⟩ := open_intss hv1 h1
  by_cases hK : 20 < K.length
  · exact logSafe_many _ a1 K.length c1 w hK
  · exact logSafe_few a0 L c0 a1 K c1 w r1 r2 s1 s2 (by omega)

end Go.Proofs.Ytlapgalefpenbaa

/- Format of a new device. -/
import Derived.Test.YtlapgalefpenbaaLOpen
namespace Go.Proofs.Ytlapgalefpenbaa
open Go.RowKit

theorem turned_flushed {A : Nat} {D : DS} {P : PS} (hh : D.held = [(0, sec (enc P.slot))]) (hn : Holds A D.safe P) : Solid A D.flushed P := by
  have h0 : D.flushed.safe = upd D.safe 0 (sec (enc P.slot)) := by
    show flN D.safe D.held D.held.length = _
    rw [hh]
    rfl
  refine ⟨rfl, hn.same fun j _ hj => ?_, ?_⟩
  · rw [h0]; unfold upd; rw [if_neg hj]
  · unfold mark
    rw [h0]
    unfold upd
    rw [if_pos rfl]
    exact head_sec _ (slot_lt hn)

/-- A device that was formatted. -/
theorem fresh_math {A b : Nat} {D : DS} (hi : Inv b D) (hc : Calm D) (hn : 2 * A + 4 ≤ D.n) (t : ByteArray) (hr : secs t ≤ A) : Solid A (drun D (script A 1 1 0 t)).2.flushed ⟨1, 1, secs t, [t]⟩ := by
  have hl : D.left ≠ 0 := by have := hc.1; omega
  have hs : dstep D none = (none, D.flushed) := by rw [dstep_none, if_neg hl]
  have hr1 : drun D (script A 1 1 0 t) = dthen (dstep D none) (drun · (mid A 1 1 0 t ++ [some (0, sec (enc 1))])) := rfl
  have hc1 : Calm D.flushed := by have := (hc.st none).2; rw [hs] at this; exact this
  have hok := mid_okOps A 1 1 0 t D.n (Or.inl rfl) (Nat.le_refl _) (by omega) hn
  have hm := (hc1.run (mid A 1 1 0 t)).1
  have hc4 := (hc1.run (mid A 1 1 0 t)).2
  obtain ⟨m1, m2⟩ := mid_ok A 1 1 0 t D.flushed (b + 1) hi.flushed hok rfl hm
  rw [hr1, hs, dthen_ok _ rfl, drun_append, dthen_ok _ hm]
  generalize (drun D.flushed (mid A 1 1 0 t)).2 = D4 at *
  have hnew : Holds A D4.safe ⟨1, 1, secs t, [t]⟩ := by
    rw [m2]
    have := holds_new A 1 1 0 t D.flushed.safe [] (Or.inl rfl) (Nat.le_refl _) rfl (by omega) (by intro i p hp; simp [allp] at hp)
    simpa using this
  have hw : drun D4 [some (0, sec (enc 1))] = (none, D4.wrote 0 (sec (enc 1))) := by
    show dthen (dstep D4 (some (0, sec (enc 1)))) (drun · []) = _
    rw [dstep_some, if_neg (by have := hc4.1; omega), if_neg (by have := hc4.2; omega), dthen_ok _ rfl]
    rfl
  rw [hw]
  refine turned_flushed ?_ hnew
  show D4.held ++ [(0, sec (enc 1))] = _
  rw [m1]
  rfl

section
variable {B b : Nat} {w : World} {g gs : Nat} {hv : Value} {D : DS}

set_option maxHeartbeats 800000 in
set_option maxRecDepth 100000 in
theorem format1_any {lb pl : Nat} (l : Lg B w lb g gs hv (.slice none 0 0) D LS0) (hin : 0 < D.n) (hl : D.left ≠ 0) (h0 : D.seen 0 = blk 0) (cp : w.cell? ⟨pl, 0, none⟩ = some (.pointer (some ⟨lb, 0, none⟩))) (hne : ¬ pl = lb) :
    Calls Try.prog 36 #[.pointer (some ⟨pl, 0, none⟩)] w fun e w' => e = .returned (.tuple #[]) ∧ LTo B w lb g gs hv (.slice none 0 0) D LS0 w' := by
  have lD : Lg B w.drew lb g gs hv (.slice none 0 0) D LS0 := l.kept (fun _ _ => rfl)
  have cF := find_none (lcell lD.log).1 lD.dev hin hl h0
  have hne2 : ¬ lb = pl := fun e => hne e.symm
  have hlt := World.block_lt_of_cell? w _ cp
  clear h0
  have fin : ∀ w1, Below w.drew.heap.size w.drew w1 → w1.cell? ⟨pl, 0, none⟩ = some (.pointer (some ⟨lb, 0, none⟩)) ∧ w1.cell? ⟨lb, 1, none⟩ = some (.int .i64 0) ∧ w1.cell? ⟨lb, 2, none⟩ = some (.int .i64 0) ∧ w1.cell? ⟨lb, 3, none⟩ = some (.int .i64 0) ∧ w1.frozen? ⟨lb, 1, none⟩ = false ∧ w1.frozen? ⟨lb, 2, none⟩ = false ∧ w1.frozen? ⟨lb, 3, none⟩ = false ∧
      Hid (LTo B w lb g gs hv (.slice none 0 0) D LS0 (((w1.setCell ⟨lb, 1, none⟩ (.int .i64 0)).setCell ⟨lb, 2, none⟩ (.int .i64 0)).setCell ⟨lb, 3, none⟩ (.int .i64 0))) := by
    intro w1 b1
    have l1 := lD.below b1
    obtain ⟨_, x1, x2, x3, _⟩ := lcell l1.log
    have b2 := below2 (below_drew w) b1
    refine ⟨(b2.cell (p := ⟨pl, 0, none⟩) hlt).trans cp, x1, x2, x3, l1.free 1, l1.free 2, l1.free 3, hv, _, ((l1.put 1 (.int .i64 0) LS0 rfl rfl).put 2 (.int .i64 0) LS0 rfl rfl).put 3 (.int .i64 0) LS0 rfl rfl, (((Fr.of_below b2).set (p := ⟨lb, 1, none⟩) (Or.inl (Or.inl rfl)) (.int .i64 0)).set (p := ⟨lb, 2, none⟩) (Or.inl (Or.inl rfl)) (.int .i64 0)).set (p := ⟨lb, 3, none⟩) (Or.inl (Or.inl rfl)) (.int .i64 0), fun _ e => Or.inl e⟩
  go_enter Try.func36, Try.ntmps36
  go_wp2_with fail
  go_region_held3 (fun W => W.cell? ⟨pl, 0, none⟩ = some (.pointer (some ⟨lb, 0, none⟩)))
    (first | exact cp | exact k1 | go_keep)
    (first | (go_at_call 37; refine cF.mono ?_; rintro e w1 ⟨rfl, b1⟩; obtain ⟨k1, x1, x2, x3, y1, y2, y3, Z⟩ := fin w1 b1))
  all_goals go_wp2_with fail
  all_goals go_end0
  all_goals exact ⟨rfl, Z.out⟩

set_option maxHeartbeats 1600000 in
set_option maxRecDepth 100000 in
theorem format_good (d : Dev B w g gs hv D) (hi : Inv b D) (hc : Calm D) (hB : B ≤ w.heap.size) (h8 : 8 ≤ D.n) (h0 : D.seen 0 = blk 0) (A : Nat) (hA : A = areaN D.n) (t : ByteArray) (hr : secs t ≤ A) (hb : b + secs t + 10 ≤ 100000) :
    Calls Try.prog 12 #[.pointer (some ⟨g, 0, none⟩), .string t] w fun e w' => ∃ lb, e = .returned (.tuple #[.pointer (some ⟨lb, 0, none⟩), .int .i64 0]) ∧ w.heap.size ≤ lb ∧ Opened B w g gs hv (drun D (script A 1 1 0 t)).2.flushed ⟨1, 1, secs t, t, [], false⟩ lb w' := by
  have hn := hi.n.2
  have hA4 : 2 * A + 4 ≤ D.n ∧ A ≤ 4096 := by rw [hA]; unfold areaN; omega
  have hl : D.left ≠ 0 := by have := hc.1; omega
  have h : ¬ (D.n : Int) < 8 := by omega
  have ht : t.size ≤ 1000000000 := by unfold secs at hr; omega
  have hmf : ∀ (fn : Fn) (first cap : Array Value) (w : World), (Instr.makeFunc fn first cap).run Try.prog w = .ok (.func fn first cap) w := fun _ _ _ _ => rfl
  have cS := fun w => sectorsOf_any t ht w
  have cAr := areaOf_any d h8 hn A hA
  obtain ⟨H, hH⟩ : ∃ H, H = w.heap.size := ⟨_, rfl⟩
  obtain ⟨W, hW⟩ : ∃ W, W = (w.alloc (.cells #[.pointer (some ⟨g, 0, none⟩), .int .i64 0, .int .i64 0, .int .i64 0, .string ⟨#[]⟩, .slice none 0 0, .bool false] 81)).alloc (.cells #[.pointer (some ⟨H, 0, none⟩)] 30) := ⟨_, rfl⟩
  have bW : Below w.heap.size w W := by rw [hW]; exact below2 (below_alloc1 _ _) (below_alloc1 _ _)
  have l1 : Lg B W H g gs hv (.slice none 0 0) D LS0 := by
    rw [hW, hH]
    exact (Lg.new d hB (.cells #[.pointer (some ⟨g, 0, none⟩), .int .i64 0, .int .i64 0, .int .i64 0, .string ⟨#[]⟩, .slice none 0 0, .bool false] 81) rfl).below (below_alloc1 _ _)
  have k1 : W.cell? ⟨H + 1, 0, none⟩ = some (.pointer (some ⟨H, 0, none⟩)) := by rw [hW, hH]; go_simp
  have hsz : W.heap.size = H + 2 := by rw [hW, hH]; simp
  have cA := att_log l1 36 #[] #[.pointer (some ⟨H + 1, 0, none⟩)] enters36 none (fun V6 h6 => format1_any (l1.below h6) (by omega) hl h0 ((h6.cell (p := ⟨H + 1, 0, none⟩) (by show H + 1 < W.heap.size; omega)).trans k1) (by omega))
  have nf1 : ¬ footL H g gs hv (.slice none 0 0) (H + 1) := by
    rintro (r | r | r)
    · omega
    · have := d.lt _ r; omega
    · cases r
  obtain ⟨R, hR⟩ : ∃ R, R = drun D (script A 1 1 0 t) := ⟨_, rfl⟩
  have hR1 : R.1 = none := by rw [hR]; exact (hc.run _).1
  have hcR : Calm R.2 := by rw [hR]; exact (hc.run _).2
  have hokS : okOps D.n (script A 1 1 0 t) := by
    intro o ho p hp
    subst hp
    unfold script at ho
    rcases List.mem_cons.1 ho with e | e
    · cases e
    · rcases List.mem_append.1 e with e | e
      · exact mid_okOps A 1 1 0 t D.n (Or.inl rfl) (Nat.le_refl _) (by omega) (by omega) _ e p rfl
      · simp at e
        subst e
        exact ⟨by show 0 < D.n; omega, sec_size _ (by have := (enc_len 1).2; omega)⟩
  have hiR : Inv (b + (script A 1 1 0 t).length) R.2 := by rw [hR]; exact (hi.run _ hokS).1
  have hsl : (script A 1 1 0 t).length = secs t + 4 := by
    unfold script mid
    simp [tws_length, pcs_secs]
  rw [hsl] at hiR
  have cRe := fun w hv rv (l : Lg B w H g gs hv rv D LS0) hB => replace_any l hi hB rfl h8 hn A hA t hr (by omega) 1 1 (secs t) rfl (Nat.zero_le _) rfl rfl R hR
  have cFl := fun w hv rv (l : Lg B w H g gs hv rv R.2 ⟨1, 1, secs t, t, [], false⟩) => lflush_call l hiR (by omega) rfl (dstep R.2 none) rfl
  have hds : dstep R.2 none = (none, R.2.flushed) := by rw [dstep_none, if_neg (by have := hcR.1; omega)]
  rw [hds] at cFl
  rw [hR1] at cRe
  simp only [errN, lafter, rafter] at cRe cFl cA
  rw [← hR]
  have hr2 : ¬ (A : Int) < (secs t : Int) := by omega
  have HW : Hid (W = (w.alloc (.cells #[.pointer (some ⟨g, 0, none⟩), .int .i64 0, .int .i64 0, .int .i64 0, .string ⟨#[]⟩, .slice none 0 0, .bool false] 81)).alloc (.cells #[.pointer (some ⟨H, 0, none⟩)] 30)) := hW
  have HH : Hid (H = w.heap.size) := hH
  clear hW hR hR1 h0 hA hokS hsl hds
  generalize secs t = m at *
  go_enter Try.func12, Try.ntmps12
  go_wp2_with fail
  refine (sectors_any d).mono ?_
  rintro e w1 ⟨rfl, e1⟩
  rw [e1]
  go_wp2_with fail
  refine (cS _).mono ?_
  rintro e w2 ⟨rfl, e2⟩
  rw [e2]
  go_wp2_with fail
  refine cAr.mono ?_
  rintro e w3 ⟨rfl, e3⟩
  rw [e3]
  clear hH
  go_wp2_with fail
  rw [← HH.out, ← HW.out]
  refine cA.mono ?_
  rintro e w4 ⟨rfl, z4⟩
  have hlt1 : H + 1 < W.heap.size := by omega
  have hBW : B ≤ W.heap.size := Nat.le_trans hB bW.size
  obtain ⟨hv4, rv4, l4, f4, g4⟩ := z4
  have k4 := (World.cell?_of_block (a := ⟨H + 1, 0, none⟩) (f4.block (H + 1) hlt1 nf1)).trans k1
  go_wp2_with fail
  refine (cRe w4 hv4 rv4 l4 (Nat.le_trans hBW f4.size)).mono ?_
  rintro e w5 ⟨rfl, z5⟩
  obtain ⟨hv5, rv5, l5, f5, g5⟩ := LTo.after f4 g4 z5
  have k5 := (World.cell?_of_block (a := ⟨H + 1, 0, none⟩) (f5.block (H + 1) hlt1 nf1)).trans k1
  go_wp2_with fail
  refine (cFl w5 hv5 rv5 l5).mono ?_
  rintro e w6 ⟨rfl, z6⟩
  have z7 := LTo.after f5 g5 z6
  obtain ⟨hv6, rv6, l6, f6, g6⟩ := z7
  have k6 := (World.cell?_of_block (a := ⟨H + 1, 0, none⟩) (f6.block (H + 1) hlt1 nf1)).trans k1
  go_wp2_with fail
  exact bodyPost_ret (v := .tuple #[.pointer (some ⟨H, 0, none⟩), .int .i64 0]) (by simp [results, Try.results12, go_sem]) rfl ⟨H, rfl, by rw [HH.out]; exact Nat.le_refl _, LTo.opened ⟨hv6, rv6, l6, f6, g6⟩ bW (by rw [HH.out]; exact Nat.le_refl _)⟩
end

end Go.Proofs.Ytlapgalefpenbaa

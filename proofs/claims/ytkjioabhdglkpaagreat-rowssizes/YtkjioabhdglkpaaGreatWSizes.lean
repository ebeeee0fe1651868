/- RowsSizes: the walk. -/
import Derived.Test.YtkjioabhdglkpaaGreatWAll
namespace Go.Proofs.YtkjioabhdglkpaaGreat
open Go.RowKit

section
variable {W w w' : World} {rb hb p g bd n m : Nat} {rs : List Ro} {G : Nat → Prop}

/-- The heap's Pages, where there are no rows. -/
theorem Rz.pages (h : Rz W w rb hb p g bd n m [] G) (hbd : bd ≤ 6000000) (hm : 1 ≤ m) :
    Calls Tryz.prog 32 #[.pointer (some ⟨hb, 0, none⟩)] w fun e w' => ∃ a c, e = .returned (.tuple #[.slice a 0 c, .int .i64 0]) ∧ Rz' W w w' rb hb p g (bd + 3) n m [] G := by
  obtain ⟨mb, wa, wc, vf, H, r, q⟩ := h.ex
  obtain ⟨V, ok⟩ := r.dx.vok
  have he : ent n H = [] := q.eq_nil
  have hpg := ent_pages ok he
  refine (r.dx.pages hbd hm).mono ?_
  rintro e w' ⟨v, rfl, row, _, d, k⟩
  rw [hpg] at row
  obtain ⟨a, c, rfl, _, _⟩ := row.len
  exact ⟨a, c, rfl, ⟨mb, wa, wc, vf, H, r.move (d.less (fun k z => Or.inl z)) k, q⟩, k.less (fun k z => Or.inl z)⟩
theorem pieN_one (x : Ro) : pieN [x] = cntN x.text.size := by unfold pieN; simp
theorem delRo_one (x : Ro) : delRo [x] x.id = [] := by unfold delRo; simp
theorem putRo_one (x y : Ro) (h : y.id = x.id) : putRo [x] y = [y] := by
  unfold putRo
  rw [if_neg (by omega), if_pos h]
theorem Rz.ids (h : Rz W w rb hb p g bd n m rs G) (hlen : rs.length ≤ 100000) :
    Calls Tryz.prog 26 #[.pointer (some ⟨rb, 0, none⟩)] w fun e w' => ∃ a c, e = .returned (.slice a (idsR rs).length c) ∧ w'.ownsRow w.heap.size 2 1 (.slice a (idsR rs).length c) (idsR rs).length ((idsR rs).map (Value.int .i64)) ∧ Below w.heap.size w w' := by
  obtain ⟨mb, wa, wc, vf, H, r, q⟩ := h.ex
  refine (roids_any r hlen).mono ?_
  rintro e w' ⟨v, rfl, row, b⟩
  rcases row.2 with ⟨rfl, hz⟩ | ⟨gb, cap, cur, rfl, _⟩
  · exact ⟨none, 0, by rw [hz], by rw [hz] at row ⊢; exact row, b⟩
  · exact ⟨_, _, rfl, row, b⟩
theorem Rz.pieces (h : Rz W w rb hb p g bd n m rs G) {x : Ro} (hx : x ∈ rs) : Calls Tryz.prog 29 #[.pointer (some ⟨rb, 0, none⟩), .int .i64 (x.id : Int)] w fun e w' => e = .returned (.int .i64 (cntN x.text.size : Int)) ∧ w' = w := by
  obtain ⟨mb, wa, wc, vf, H, r, q⟩ := h.ex
  exact pieces_yes r hx
end

set_option maxHeartbeats 6400000 in
set_option maxRecDepth 100000 in
theorem rowsSizes_on (i nn aa : Int) (w : World) (hi : -9223372036854775808 ≤ i ∧ i ≤ 9223372036854775807) (hn : 0 ≤ nn ∧ nn ≤ 65535) (ha : 0 ≤ aa ∧ aa ≤ 65535) :
    Calls Tryz.prog 7 #[.int .i64 i, .int .u16 nn, .int .u16 aa] w fun e w' => e = .returned (.bool true) ∧ Below w.heap.size w w' := by
  have cM := made9_any 60 3 (by decide) (by decide) w
  have cW := wakes9_any
  obtain ⟨k, hk⟩ : ∃ k : Nat, k = nn.toNat % 4001 := ⟨_, rfl⟩
  obtain ⟨k2, hk2⟩ : ∃ k : Nat, k = aa.toNat % 4001 := ⟨_, rfl⟩
  have w1 : IntKind.i64.wrap nn = nn := by rw [IntKind.wrap_i64]; omega
  have w2 : IntKind.i64.wrap aa = aa := by rw [IntKind.wrap_i64]; omega
  have e1 : nn.tmod 4001 = (k : Int) := by rw [Int.tmod_eq_emod_of_nonneg hn.1]; omega
  have e2 : aa.tmod 4001 = (k2 : Int) := by rw [Int.tmod_eq_emod_of_nonneg ha.1]; omega
  have hkb : k ≤ 4000 := by omega
  have hk2b : k2 ≤ 4000 := by omega
  have cZ1 := fun w => rzeros_any k w (by omega)
  have cZ2 := fun w => rzeros_any k2 w (by omega)
  have s1 : (ba (List.replicate k 0)).size = k := by rw [ba_size, List.length_replicate]
  have s2 : (ba (List.replicate k2 0)).size = k2 := by rw [ba_size, List.length_replicate]
  obtain ⟨d, hd⟩ : ∃ d, d = k / 360 := ⟨_, rfl⟩
  obtain ⟨d2, hd2⟩ : ∃ d, d = k2 / 360 := ⟨_, rfl⟩
  have q1 : (k : Int).tdiv 360 = (d : Int) := by rw [Int.tdiv_eq_ediv_of_nonneg (by omega)]; omega
  have q2 : (k2 : Int).tdiv 360 = (d2 : Int) := by rw [Int.tdiv_eq_ediv_of_nonneg (by omega)]; omega
  have r1 : (k : Int) / 360 = (d : Int) := by omega
  have r2 : (k2 : Int) / 360 = (d2 : Int) := by omega
  have c1 : (d : Int) + 1 = (cntN k : Int) := by unfold cntN; omega
  have c2 : (d2 : Int) + 1 = (cntN k2 : Int) := by unfold cntN; omega
  have b1 : cntN k ≤ 12 := by unfold cntN; omega
  have b2 : cntN k2 ≤ 12 := by unfold cntN; omega
  have hT : -2305843009213693951 ≤ i.tmod 2305843009213693952 ∧ i.tmod 2305843009213693952 ≤ 2305843009213693951 := by
    have h1 := Int.emod_nonneg i (b := 2305843009213693952) (by decide)
    by_cases q : i < 0
    · have h2 := Int.tmod_nonneg (a := -i) 2305843009213693952 (by omega)
      have h3 := Int.tmod_lt_of_pos (-i) (b := 2305843009213693952) (by decide)
      rw [Int.neg_tmod] at h2 h3
      omega
    · have h2 := Int.tmod_nonneg (a := i) 2305843009213693952 (by omega)
      have h3 := Int.tmod_lt_of_pos i (b := 2305843009213693952) (by decide)
      omega
  clear hk hk2 hn ha hi hd hd2
  obtain ⟨T, hTe⟩ : ∃ T : Int, i.tmod 2305843009213693952 = T := ⟨_, rfl⟩
  rw [hTe] at hT
  have HS := (show Hid _ from And.intro s1 s2)
  generalize ba (List.replicate k 0) = Z1 at *
  generalize ba (List.replicate k2 0) = Z2 at *
  have HB := (show Hid _ from And.intro hkb hk2b)
  clear s1 s2
  by_cases hTn : T < 0
  · have d1 : decide (1 + T < 1) = true := by simp; omega
    clear cZ1 cZ2 q1 q2 r1 r2 c1 c2
    go_enter Tryz.func7, Tryz.ntmps7
    go_wp2_with fail
    refine cM.mono ?_
    rintro e w3 ⟨g, p, hb, rb, rfl, r3⟩
    have HR := (show Hid _ from r3.bel)
    have cP := roput_arg rb (1 + T) ⟨#[]⟩ w3 (by omega)
    clear cM r3
    go_wp2_with fail
    refine cP.mono ?_
    rintro e w4 ⟨rfl, hw⟩
    rw [hw]
    clear hw cP
    go_wp2_with fail
    refine (cW w3).mono ?_
    rintro e w4 ⟨rfl, b4⟩
    clear cW
    go_wp2_with fail
    go_ret
    exact ⟨rfl, below2 HR.out b4⟩
  · obtain ⟨t, rfl⟩ : ∃ t : Nat, T = (t : Int) := ⟨T.toNat, by omega⟩
    obtain ⟨id, hid⟩ : ∃ id : Nat, id = t + 1 := ⟨_, rfl⟩
    have h1t : (1 : Int) + (t : Int) = (id : Int) := by omega
    have hid2 : 1 ≤ id ∧ id ≤ 4611686018427387903 := by omega
    have d1 : decide ((id : Int) < 1) = false := by simp; omega
    clear hTn hid hT
    go_enter Tryz.func7, Tryz.ntmps7
    go_wp2_with fail
    refine cM.mono ?_
    rintro e w3 ⟨g, p, hb, rb, rfl, r3⟩
    have HR := (show Hid _ from r3)
    clear cM r3
    go_wp2_with fail
    refine (cZ1 w3).mono ?_
    rintro e w4 ⟨rfl, b4⟩
    have HR4 := (show Hid _ from Rz.below HR b4)
    have cP := roput_new (text := Z1) HR4 (by omega) (by omega) (by omega) (by simp) hid2 (by have := HS.1; have := HB.1; omega) (by simp [idsR])
    clear cZ1 HR b4
    go_wp2_with fail
    refine cP.mono ?_
    rintro e w5 ⟨X, rfl, q⟩
    obtain ⟨hX, ks, ok1, r5⟩ := q.room (by have h1 := HS.1; have h2 := HB.1; rw [h1]; simp [pieN]; unfold cntN; omega)
    rw [hX]
    clear hX q cP HR4
    have r5' : Rz w w5 rb hb p g (3 * 60 + 6 + 12 * (6 * 60 + 10) + 216) 60 3 [⟨id, Z1, ks⟩] (fun _ => False) := r5.rz
    have HR5 := (show Hid _ from r5')
    have cQ := r5'.places (by omega) (by decide) (by decide)
    have z1 : pieN [(⟨id, Z1, ks⟩ : Ro)] = cntN k := by rw [pieN_one]; simp only; rw [HS.out.1]
    rw [z1] at cQ
    clear r5 r5' ok1 z1
    go_wp2_with fail
    refine cQ.mono ?_
    rintro e w6 ⟨pa, pc, rfl, r6⟩
    have HR6 := (show Hid _ from r6.rz)
    have cPi := HR6.out.pieces (x := ⟨id, Z1, ks⟩) (by simp)
    simp only [HS.out.1] at cPi
    clear cQ r6 HR5
    go_wp2_with fail
    refine cPi.mono ?_
    rintro e w7 ⟨rfl, hw7⟩
    rw [hw7]
    clear hw7 cPi
    go_wp2_with fail
    refine (cZ2 w6).mono ?_
    rintro e w8 ⟨rfl, b8⟩
    have HR8 := (show Hid _ from Rz.below HR6 b8)
    have cP := roput_old (text := Z2) HR8 (by omega) (by omega) (by omega) (by simp) (y := ⟨id, Z1, ks⟩) (by simp) (by have := HS.2; have := HB.2; omega)
    simp only at cP
    clear cZ2 HR6 b8
    go_wp2_with fail
    refine cP.mono ?_
    rintro e w9 ⟨X, rfl, q⟩
    obtain ⟨hX, ks2, ok2, r9⟩ := q.room (by have h1 := HS.out.1; have h2 := HS.out.2; have h3 := HB.out.1; have h4 := HB.out.2; rw [pieN_one, h2]; simp only; rw [h1]; unfold cntN; omega)
    rw [hX]
    rw [putRo_one ⟨id, Z1, ks⟩ ⟨id, Z2, ks2⟩ rfl] at r9
    clear hX q cP HR8
    have r9' := r9.rz
    have HR9 := (show Hid _ from r9')
    have cQ := r9'.places (by omega) (by decide) (by decide)
    have z1 : pieN [(⟨id, Z2, ks2⟩ : Ro)] = cntN k2 := by rw [pieN_one]; simp only; rw [HS.out.2]
    rw [z1] at cQ
    clear r9 r9' ok2 z1
    go_wp2_with fail
    refine cQ.mono ?_
    rintro e w10 ⟨pa2, pc2, rfl, r10⟩
    have HR10 := (show Hid _ from r10.rz)
    have cD := rodel_yes HR10 (by omega) (by decide) (x := ⟨id, Z2, ks2⟩) (by simp)
    rw [delRo_one] at cD
    simp only at cD
    clear cQ r10 HR9
    go_wp2_with fail
    refine cD.mono ?_
    rintro e w11 ⟨rfl, r11⟩
    have HR11 := (show Hid _ from r11.rz)
    have cQ := r11.rz.places (by omega) (by decide) (by decide)
    rw [show pieN [] = 0 from rfl] at cQ
    clear cD r11 HR10
    go_wp2_with fail
    refine cQ.mono ?_
    rintro e w12 ⟨pa3, pc3, rfl, r12⟩
    have HR12 := (show Hid _ from r12.rz)
    have cQ2 := r12.rz.pages (by omega) (by decide)
    clear cQ r12 HR11
    go_wp2_with fail
    refine cQ2.mono ?_
    rintro e w13 ⟨pa4, pc4, rfl, r13⟩
    have HR13 := (show Hid _ from r13.rz)
    have cI := r13.rz.ids (by simp)
    rw [show (idsR []).length = 0 from rfl] at cI
    clear cQ2 r13 HR12
    go_wp2_with fail
    refine cI.mono ?_
    rintro e w14 ⟨ia, ic, rfl, _, b14⟩
    have B14 := (show Hid _ from (HR13.out.below b14).bel)
    clear cI b14 HR13
    go_wp2_with fail
    refine (cW w14).mono ?_
    rintro e w15 ⟨rfl, b15⟩
    clear cW
    go_wp2_with fail
    go_ret
    exact ⟨rfl, below2 B14.out b15⟩

end Go.Proofs.YtkjioabhdglkpaaGreat

/- Layer 10: ways down in memory; a tree's own cells. -/
import Derived.Test.YtkfoddblgdmabaaTrRepair
import Derived.Deep.LoopGhost
namespace Go.Proofs.Ytkfoddblgdmabaa.tr
open Go.RowKit

/-- A spot: a node, a place. -/
def gS (q : Nat × Nat) : List Value := [.pointer (some ⟨q.1, 0, none⟩), .int .i64 (q.2 : Int)]
theorem gS_len (q : Nat × Nat) : (gS q).length = 2 := rfl
theorem gS_one (q : Nat × Nat) : ∀ u ∈ gS q, u.oneCell' = true := by intro u hu; simp [gS] at hu; rcases hu with rfl | rfl <;> rfl
theorem Try.infoS : (Try.prog.info? 76).map (fun i => (i.zero, i.size, i.bytes)) = some (some (.agg #[.pointer none, .int .i64 0]), 2, 16) := by kernel_rfl
abbrev RowS (w : World) (B : Nat) (v : Value) (l : List (Nat × Nat)) : Prop := GRow 76 2 gS w B v l
theorem one_newS (U : World) (q : Nat × Nat) : RowS (U.alloc (.cells #[.pointer (some ⟨q.1, 0, none⟩), .int .i64 (q.2 : Int)] 76)) 0 (.slice (some ⟨U.heap.size, 0, none⟩) 1 1) [q] :=
  GRow.of_obj (l := [q]) (c := 1) gS_len (heap_alloc_new U _) (Nat.zero_le _) (Nat.le_refl _) (by decide) rfl rfl

/-- What a walk down comes to. -/
structure Res (M : Mp) (f R H : Nat) (T : List Ent) (key : ByteArray) (way : List (Nat × Nat)) (there : Bool) : Prop where
  ex : ∃ up h b pre L post Fo F n, way = up.reverse ++ [(b, pos key n.es)] ∧ Spot M f R H up h b pre L post Fo F ∧ T = pre ++ L ++ post ∧ M b = some n ∧ Lo pre key ∧ Hi post key ∧ there = hasL key n.es ∧ (there = false → h = 0) ∧ (up ≠ [] → Full M f b) ∧ (h ≠ 0 → 1 ≤ n.es.length)

section
variable {w : World} {B : Nat} {M : Mp} {f R H : Nat}

theorem Spot.sorted {up : List (Nat × Nat)} {h b : Nat} {pre L post : List Ent} {Fo F : List Nat} {n : Nr} (s : Spot M f R H up h b pre L post Fo F) (hs : Srt (pre ++ L ++ post)) (hn : M b = some n) : Srt n.es :=
  List.Pairwise.sublist (s.tr.es_sub hn) hs.left.right
theorem Spot.len {up : List (Nat × Nat)} {h b : Nat} {pre L post : List Ent} {Fo F : List Nat} {n : Nr} (s : Spot M f R H up h b pre L post Fo F) (hn : M b = some n) : n.es.length ≤ (pre ++ L ++ post).length := by
  have := (s.tr.es_sub hn).length_le
  simp only [List.length_append]
  omega

theorem Gd.high {T : List Ent} {F : List Nat} (g : Gd M f R H T F) (hf3 : 3 ≤ f) : H ≤ T.length := by
  by_cases h0 : H = 0
  · omega
  · have h1 := g.size h0
    have h2 : 2 ^ H ≤ ((f + 1) / 2) ^ H := Nat.pow_le_pow_left (by omega) H
    have h3 : H < 2 ^ H := Nat.lt_two_pow_self
    omega

set_option maxHeartbeats 3200000 in
set_option maxRecDepth 100000 in
theorem walk_any {tb : Nat} {T : List Ent} {F0 : List Nat} (m : Mm w B M) (ht : w.cell? ⟨tb, 1, none⟩ = some (.pointer (some ⟨R, 0, none⟩))) (g : Gd M f R H T F0) (hf3 : 3 ≤ f) (hlen : T.length ≤ 20000) (key : ByteArray) :
    Calls Try.prog 29 #[.pointer (some ⟨tb, 0, none⟩), .string key] w fun e w' => ∃ v way there, e = .returned (.tuple #[v, .bool there]) ∧ RowS w' w.heap.size v way ∧ Below w.heap.size w w' ∧ Res M f R H T key way there := by
  have HM : Hid (Mm w B M) := m
  have HG : Hid (Gd M f R H T F0) := g
  clear m g
  go_enter Try.func29, Try.ntmps29
  go_wp2_with fail
  go_step3
  go_wp2_with fail
  go_step3
  go_wp2_with fail
  go_loopg [4, 5, 6] H (fun kx s4 s5 s6 wr => ∃ (up : List (Nat × Nat)) (h b : Nat) (pre L post : List Ent) (Fo F : List Nat), s5 = .bool false ∧ s6 = .pointer (some ⟨b, 0, none⟩) ∧ Hid (RowS wr w.heap.size s4 up.reverse) ∧ Below w.heap.size w wr ∧ h ≤ kx ∧ Hid (Spot M f R H up h b pre L post Fo F ∧ T = pre ++ L ++ post ∧ Lo pre key ∧ Hi post key ∧ (up ≠ [] → Full M f b) ∧ (h ≠ 0 → ∃ n, M b = some n ∧ 1 ≤ n.es.length)))
  case atStart => exact ⟨[], H, R, [], T, [], [], F0, rfl, rfl, grow_nil _ _ _ _ _, Below.refl _ _, Nat.le_refl _, HG.out.spot, by simp, Lo.nil _, Hi.nil _, fun q => absurd rfl q, HG.out.one⟩
  case round =>
    obtain ⟨up, h, b, pre, L, post, Fo, F, rfl, rfl, hrow, hb, hh, hsp⟩ := hrel
    obtain ⟨n, hn⟩ := hsp.out.1.tr.dom
    have hsrt : Srt (pre ++ L ++ post) := by rw [← hsp.out.2.1]; exact HG.out.srt
    have hnl := hsp.out.1.len hn
    rw [← hsp.out.2.1] at hnl
    have mr := HM.out.below hb
    have hfd := find_any mr hn (hsp.out.1.sorted hsrt hn) (by omega) key
    have hupl : up.length ≤ 20000 := by
      have h1 := hsp.out.1.up.height
      have h2 := HG.out.high hf3
      omega
    have hple := pos_le key n.es
    have HR2 : Hid (∀ v w2, RowS w2 w.heap.size v (up.reverse ++ [(b, pos key n.es)]) → Below w.heap.size w w2 → ∀ there, there = hasL key n.es → (there = false → h = 0) → ∃ v' way there', Ending.returned (Value.tuple #[v, .bool there]) = .returned (.tuple #[v', .bool there']) ∧ RowS w2 w.heap.size v' way ∧ Below w.heap.size w w2 ∧ Res M f R H T key way there') := fun v w2 hr hb2 there h1 h2 => ⟨v, _, there, rfl, hr, hb2, ⟨⟨up, h, b, pre, L, post, Fo, F, n, rfl, hsp.out.1, hsp.out.2.1, hn, hsp.out.2.2.1, hsp.out.2.2.2.1, h1, h2, hsp.out.2.2.2.2.1, fun q => by
      obtain ⟨n', g1, g2⟩ := hsp.out.2.2.2.2.2 q
      rw [hn] at g1; cases g1
      exact g2⟩⟩⟩
    have HX : Hid (hasL key n.es = false → h ≠ 0 → ∃ h' k A L' C FA F' FC, h = h' + 1 ∧ n.ks[pos key n.es]? = some k ∧ Spot M f R H ((b, pos key n.es) :: up) h' k (pre ++ A) L' (C ++ post) (b :: (FA ++ FC ++ Fo)) F' ∧ T = (pre ++ A) ++ L' ++ (C ++ post) ∧ Lo (pre ++ A) key ∧ Hi (C ++ post) key ∧ Full M f k) := fun h1 h2 => by
      obtain ⟨h', rfl⟩ := Nat.exists_eq_succ_of_ne_zero h2
      obtain ⟨s1, s2, s3, s4, s5, s6⟩ := hsp.out
      obtain ⟨n', g1, g2⟩ := s6 h2
      rw [hn] at g1; cases g1
      obtain ⟨k, A, L', C, FA, F', FC, q1, q2, q3, q4, q5, q6⟩ := s1.kid hn g2 s5 hple
      have hS : Srt T := HG.out.srt
      have hT : T = (pre ++ A) ++ L' ++ (C ++ post) := by rw [s2, q2]; simp
      obtain ⟨E1, E2, e1, e2, e3, e4⟩ := pos_cut key n.es (s1.sorted (by rw [← s2]; exact hS) hn)
      have t1 : n.es.take (pos key n.es) = E1 := by rw [← e2, e1, List.take_left]
      have t2 : n.es.drop (pos key n.es) = E2 := by rw [← e2, e1, List.drop_left]
      have hE2 : Hi E2 key := by
        rcases e4 with e4 | ⟨x, E', rfl, ex, e4⟩
        · exact e4
        · rw [e1, ← ex, hasL_old (by rw [ex]; exact e3)] at h1
          cases h1
      rw [t1] at q5
      rw [t2] at q6
      rw [hT] at hS
      refine ⟨h', k, A, L', C, FA, F', FC, rfl, q1, q3, hT, Lo.app.2 ⟨s3, lf_low q5 hS.left.left.right e3⟩, Hi.app.2 ⟨rt_high q6 hS.right.left hE2, s4⟩, q4⟩
    have HTr : Hid (n.ks = [] ↔ h = 0) := hsp.out.1.tr.ks_nil hn
    have HKl : Hid (n.ks.length ≤ n.es.length + 1) := hsp.out.1.tr.ks_le hn
    clear hsrt
    obtain ⟨p, hp⟩ : ∃ p, pos key n.es = p := ⟨_, rfl⟩
    obtain ⟨th, hth⟩ : ∃ th, hasL key n.es = th := ⟨_, rfl⟩
    rw [hp] at hfd hple HR2 HX
    rw [hth] at hfd HR2 HX
    have hpb : p ≤ 20000 := by omega
    clear hp hth
    cases th with
    | true =>
      go_wp2_with (first | (go_at_call 44; refine hfd.mono ?_; clear hfd; rintro e w1 ⟨rfl, hb1⟩) | (at_builtin; refine wpList_append_rows gS_len gS_one Try.underlying71 Try.infoS rfl (by decide) (by decide) rfl (.tmp 19) (.tmp 23) rfl rfl ((hrow.out.below' hb1).below' (below_alloc1 _ _)) rfl (one_newS w1 (b, p)) (by simp; omega) (Nat.le_trans (Nat.le_trans hb.size hb1.size) (below_alloc1 _ _).size) ?_; intro v2 w2 row2 fr2 new2))
      have hb2 := fr2.below ((hb.trans (hb1.mono hb.size)).alloc (Nat.le_trans hb.size hb1.size) _) (Nat.le_trans (Nat.le_trans hb.size hb1.size) (below_alloc1 _ _).size) (fun k e => (hrow.out.blk e).1)
      rw [Exit.noGoto_ret]
      go_ret2
      exact HR2.out v2 _ row2 hb2 true rfl (fun q => by cases q)
    | false =>
      have HB2 : Hid (∀ w1 w2 : World, Below wr.heap.size wr w1 → Fr (fun k => u4.ownBlock = some k) (w1.alloc (.cells #[.pointer (some ⟨b, 0, none⟩), .int .i64 (p : Int)] 76)) w2 → Below w.heap.size w w2) := fun w1 w2 hb1 fr2 => fr2.below ((hb.trans (hb1.mono hb.size)).alloc (Nat.le_trans hb.size hb1.size) _) (Nat.le_trans (Nat.le_trans hb.size hb1.size) (below_alloc1 _ _).size) (fun k e => (hrow.out.blk e).1)
      by_cases h0 : h = 0
      · have hke := HTr.out.2 h0
        have HE : Hid (∀ w2, Below w.heap.size w w2 → Calls Try.prog 39 #[.pointer (some ⟨b, 0, none⟩)] w2 fun e w' => e = .returned (.bool true) ∧ w' = w2) := fun w2 hb2 => end_yes (HM.out.below hb2) hn hke
        clear hke
        go_wp2_with (first | (go_at_call 44; refine hfd.mono ?_; clear hfd; rintro e w1 ⟨rfl, hb1⟩) | (at_builtin; refine wpList_append_rows gS_len gS_one Try.underlying71 Try.infoS rfl (by decide) (by decide) rfl (.tmp 19) (.tmp 23) rfl rfl ((hrow.out.below' hb1).below' (below_alloc1 _ _)) rfl (one_newS w1 (b, p)) (by simp; omega) (Nat.le_trans (Nat.le_trans hb.size hb1.size) (below_alloc1 _ _).size) ?_; intro v2 w2 row2 fr2 new2; have hb2 := HB2.out _ _ hb1 fr2) | (go_at_call 39; refine (HE.out _ hb2).mono ?_; rintro e w3 ⟨rfl, h3⟩; rw [h3]; clear h3 w3))
        rw [Exit.noGoto_ret]
        go_ret2
        exact HR2.out v2 _ row2 hb2 false rfl (fun _ => h0)
      · have hke : n.ks ≠ [] := fun q => h0 (HTr.out.1 q)
        have HE : Hid (∀ w2, Below w.heap.size w w2 → Calls Try.prog 39 #[.pointer (some ⟨b, 0, none⟩)] w2 fun e w' => e = .returned (.bool false) ∧ w' = w2) := fun w2 hb2 => end_no (HM.out.below hb2) hn hke
        obtain ⟨h', k, A, L', C, FA, F', FC, hh', hkk, sp', hT', hlo, hhi, hfu⟩ := HX.out rfl h0
        obtain ⟨kb, kc, ek, hkc, hkm, hkb, k0⟩ := HM.out.kid hn hkk
        have hpk : (p : Int) < (n.ks.length : Int) := by have := (List.getElem?_eq_some_iff.1 hkk).1; omega
        have hkm' := hkm
        unfold maxLen at hkm'
        have HK : Hid (∀ w2, Below w.heap.size w w2 → w2.cell? ⟨b, 1, none⟩ = some (.slice (some ⟨kb, 0, none⟩) n.ks.length kc) ∧ w2.cell? ⟨kb, p, none⟩ = some (.pointer (some ⟨k, 0, none⟩))) := fun w2 hb2 => by
          obtain ⟨_, q1, _, _⟩ := ncell (HM.out.top b n hn).1
          rw [ek] at q1
          exact ⟨(hb2.cell (p := ⟨b, 1, none⟩) (HM.out.lt ⟨b, n, hn, Or.inl rfl⟩).2).trans q1, (hb2.cell (p := ⟨kb, p, none⟩) hkb).trans k0⟩
        have HO : Hid (∀ v2 w2, RowS w2 w.heap.size v2 (up.reverse ++ [(b, p)]) → RowS w2 w.heap.size v2 ((b, p) :: up).reverse) := fun v2 w2 hr => by simpa using hr
        have HSP : Hid (Spot M f R H ((b, p) :: up) h' k (pre ++ A) L' (C ++ post) (b :: (FA ++ FC ++ Fo)) F' ∧ T = (pre ++ A) ++ L' ++ (C ++ post) ∧ Lo (pre ++ A) key ∧ Hi (C ++ post) key ∧ ((b, p) :: up ≠ [] → Full M f k) ∧ (h' ≠ 0 → ∃ n, M k = some n ∧ 1 ≤ n.es.length)) := ⟨sp', hT', hlo, hhi, fun _ => hfu, fun _ => by
          obtain ⟨n2, g1, g2⟩ := hfu
          exact ⟨n2, g1, by omega⟩⟩
        clear ek k0 hke sp' hT' hlo hhi hkk
        go_wp2_with (first | (go_at_call 44; refine hfd.mono ?_; clear hfd; rintro e w1 ⟨rfl, hb1⟩) | (at_builtin; refine wpList_append_rows gS_len gS_one Try.underlying71 Try.infoS rfl (by decide) (by decide) rfl (.tmp 19) (.tmp 23) rfl rfl ((hrow.out.below' hb1).below' (below_alloc1 _ _)) rfl (one_newS w1 (b, p)) (by simp; omega) (Nat.le_trans (Nat.le_trans hb.size hb1.size) (below_alloc1 _ _).size) ?_; intro v2 w2 row2 fr2 new2; have hb2 := HB2.out _ _ hb1 fr2; obtain ⟨q1, q2⟩ := HK.out _ hb2) | (go_at_call 39; refine (HE.out _ hb2).mono ?_; rintro e w3 ⟨rfl, h3⟩; rw [h3]; clear h3 w3))
        go_roundg h'
        case measure => omega
        case rel => exact ⟨(b, p) :: up, h', k, pre ++ A, L', C ++ post, _, F', rfl, rfl, HO.out _ _ row2, hb2, Nat.le_refl _, HSP.out⟩
end

end Go.Proofs.Ytkfoddblgdmabaa.tr

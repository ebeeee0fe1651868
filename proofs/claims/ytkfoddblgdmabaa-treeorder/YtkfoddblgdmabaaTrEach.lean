/- Layer 10: each: the entries from a key on, handed to a loop's rounds. -/
import Derived.Test.YtkfoddblgdmabaaTrBefore
import Derived.Test.YtkfoddblgdmabaaTrRange
import Derived.Sort.LoopGhostIn
namespace Go.Proofs.Ytkfoddblgdmabaa.tr
open Go.RowKit Go.Shelf

attribute [local go_sem] Oper.semAt_some

theorem st_drop {L P : List Ent} {es : List Ent} {a : Nat} {e : Ent} (h : L = P ++ es.drop a) (he : es[a]? = some e) : L = (P ++ [e]) ++ es.drop (a + 1) := by
  have ha := (List.getElem?_eq_some_iff.1 he).1
  rw [h, List.drop_eq_getElem_cons ha]
  rw [List.getElem?_eq_getElem ha] at he
  simp only [Option.some.injEq] at he
  rw [he]
  simp

set_option maxHeartbeats 6400000 in
set_option maxRecDepth 100000 in
theorem each_end (l B : Nat) (M : Mp) (key : ByteArray) (T : List Ent) (J Jx : List Ent → World → Prop) (hJM : ∀ pre W, J pre W → Mm W B M) (hJB : ∀ pre W W', J pre W → Below W.heap.size W W' → J pre W')
    (hY : ∀ m pre x W, J pre W → (∃ Z, T = pre ++ x :: Z) → YieldAt Fence.wide m Try.prog l #[.agg #[.string x.key, .int .i64 x.n]] W fun e W' => (e = .returned (.bool true) ∧ J (pre ++ [x]) W') ∨ (e = .returned (.bool false) ∧ Jx (pre ++ [x]) W'))
    (m b : Nat) (L : List Ent) (n : Nr) (pre : List Ent) (W : World) (hn : M b = some n) (hk : n.ks = []) (hL : n.es = L) (hs : Srt L) (hlen : L.length ≤ 20000) (hJ : J pre W) (hT : ∃ Z, T = pre ++ (rg key L ++ Z)) :
    CallsIn Fence.wide m Try.prog 54 #[.pointer (some ⟨b, 0, none⟩), .string key, .func (.yield l) #[] #[]] W fun e W' => (e = .returned (.bool true) ∧ J (pre ++ rg key L) W') ∨ (e = .returned (.bool false) ∧ ∃ q, q <+: rg key L ∧ Jx (pre ++ q) W') := by
  subst hL
  obtain ⟨Z0, hZ0⟩ := hT
  have hfd := find_any (hJM _ _ hJ) hn hs (by omega) key
  have hple := pos_le key n.es
  have hst0 : rg key n.es = [] ++ n.es.drop (pos key n.es) := by rw [rg_drop]; rfl
  generalize hasL key n.es = th at *
  generalize pos key n.es = p0 at *
  have HJM : Hid (∀ pre W, J pre W → Mm W B M) := hJM
  have HJB : Hid (∀ pre W W', J pre W → Below W.heap.size W W' → J pre W') := hJB
  have hp0 : (p0 : Int) ≤ 20000 := by omega
  clear hJM hJB
  refine callsIn_of_wp Try.func54 rfl trivial ?_ rfl
  simp only [Try.ntmps54, List.size_toArray, List.length_cons, List.length_nil, Nat.reduceAdd, Nat.reduceSub, Array.replicate_succ, Array.replicate_zero, List.push_toArray, List.append_toArray, List.nil_append, List.cons_append]
  gi_wp2_with (refine ⟨trivial, fun h => (by cases h), ?_⟩; gi_at_call 44; refine (callsIn_wide.2 hfd).mono ?_; clear hfd; rintro e w1 ⟨rfl, hb1⟩)
  have hJ1 := HJB.out _ _ _ hJ hb1
  clear hJ hb1
  gi_loopg [9] n.es.length (fun kx s9 wr => ∃ (a : Nat) (P : List Ent), s9 = .int .i64 (a : Int) ∧ n.es.length ≤ kx + a ∧ a ≤ n.es.length ∧ Hid (J (pre ++ P) wr ∧ rg key n.es = P ++ n.es.drop a))
  case atStart => exact ⟨p0, [], rfl, by omega, hple, ⟨by simpa using hJ1, hst0⟩⟩
  case round =>
    obtain ⟨a, P, rfl, hkx, hal, hS⟩ := hrel
    have mr := HJM.out _ _ hS.out.1
    have hend := end_yes mr hn hk
    obtain ⟨c0, _, _, _⟩ := ncell (mr.top b n hn).1
    have hab : (a : Int) ≤ 20000 := by omega
    have ha0 : (0 : Int) ≤ (a : Int) := by omega
    by_cases hae : a = n.es.length
    · obtain ⟨ea, ec, ev, _, _⟩ := (mr.ents b n hn).len
      rw [ev] at c0
      have HE : Hid (J (pre ++ rg key n.es) wr) := by
        have := hS.out.2
        rw [hae, List.drop_length, List.append_nil] at this
        rw [this]; exact hS.out.1
      subst hae
      gi_wp2_with (refine ⟨trivial, fun h => (by cases h), ?_⟩; gi_at_call 39; refine (callsIn_wide.2 hend).mono ?_; rintro e w3 ⟨rfl, h3⟩; rw [h3]; clear h3 w3)
      refine ⟨trivial, ?_⟩
      gi_wp2
      go_ret
      exact Or.inl ⟨rfl, HE.out⟩
    · have hal2 : a < n.es.length := by omega
      obtain ⟨x, hx⟩ : ∃ x, n.es[a]? = some x := ⟨_, List.getElem?_eq_getElem hal2⟩
      obtain ⟨rb, rc, ev, _, _, _, d0, d1, _, _⟩ := mr.ent hn hx
      rw [ev] at c0
      have hst := st_drop hS.out.2 hx
      have hyl := hY (m - 1) (pre ++ P) x wr hS.out.1 ⟨n.es.drop (a + 1) ++ Z0, by rw [hZ0, hst]; simp⟩
      have hali : (a : Int) < (n.es.length : Int) := by omega
      have hane : (a : Int) ≠ (n.es.length : Int) := by omega
      obtain ⟨fn, tmps, assign, body, hy, hR⟩ := hyl
      gi_wp2_with (refine ⟨trivial, fun h => (by cases h), ?_⟩; gi_at_call 39; refine (callsIn_wide.2 hend).mono ?_; rintro e w3 ⟨rfl, h3⟩; rw [h3]; clear h3 w3)
      refine ⟨trivial, ?_⟩
      gi_wp2
      refine ⟨fun h => (by cases h), hR.mono ?_⟩
      clear hR hy
      rintro e W2 (⟨rfl, hJ2⟩ | ⟨rfl, hx2⟩)
      · gi_wp2
        gi_roundg (gk - 1)
        case rel => exact ⟨a + 1, P ++ [x], rfl, by omega, by omega, ⟨by rw [← List.append_assoc]; exact hJ2, hst⟩⟩
        case measure => omega
      · gi_wp2
        go_ret
        exact Or.inr ⟨rfl, P ++ [x], ⟨n.es.drop (a + 1), hst.symm⟩, by rw [← List.append_assoc]; exact hx2⟩

set_option maxHeartbeats 6400000 in
set_option maxRecDepth 100000 in
theorem each_node (l B : Nat) (M : Mp) (f h : Nat) (key : ByteArray) (T : List Ent) (J Jx : List Ent → World → Prop) (hJM : ∀ pre W, J pre W → Mm W B M) (hJB : ∀ pre W W', J pre W → Below W.heap.size W W' → J pre W')
    (hY : ∀ m pre x W, J pre W → (∃ Z, T = pre ++ x :: Z) → YieldAt Fence.wide m Try.prog l #[.agg #[.string x.key, .int .i64 x.n]] W fun e W' => (e = .returned (.bool true) ∧ J (pre ++ [x]) W') ∨ (e = .returned (.bool false) ∧ Jx (pre ++ [x]) W'))
    (ih : ∀ (m b : Nat) (L : List Ent) (F : List Nat) (pre : List Ent) (W : World), Tr M f h b L F → Srt L → L.length ≤ 20000 → J pre W → (∃ Z, T = pre ++ (rg key L ++ Z)) →
      CallsIn Fence.wide m Try.prog 54 #[.pointer (some ⟨b, 0, none⟩), .string key, .func (.yield l) #[] #[]] W fun e W' => (e = .returned (.bool true) ∧ J (pre ++ rg key L) W') ∨ (e = .returned (.bool false) ∧ ∃ q, q <+: rg key L ∧ Jx (pre ++ q) W'))
    (m b : Nat) (L : List Ent) (F : List Nat) (n : Nr) (pre : List Ent) (W : World) (tr : Tr M f (h + 1) b L F) (hn : M b = some n) (hs : Srt L) (hlen : L.length ≤ 20000) (hJ : J pre W) (hT : ∃ Z, T = pre ++ (rg key L ++ Z)) :
    CallsIn Fence.wide m Try.prog 54 #[.pointer (some ⟨b, 0, none⟩), .string key, .func (.yield l) #[] #[]] W fun e W' => (e = .returned (.bool true) ∧ J (pre ++ rg key L) W') ∨ (e = .returned (.bool false) ∧ ∃ q, q <+: rg key L ∧ Jx (pre ++ q) W') := by
  have hnl := tr.len hn
  have hk : n.ks ≠ [] := fun q => absurd ((tr.ks_nil hn).1 q) (Nat.succ_ne_zero h)
  obtain ⟨Z0, hZ0⟩ := hT
  have hfd := find_any (hJM _ _ hJ) hn (List.Pairwise.sublist (tr.es_sub hn) hs) (by omega) key
  have hple := pos_le key n.es
  have hst0 := tr.es hn hs key
  have hksl := tr.ks_len hn
  generalize hasL key n.es = th at *
  generalize pos key n.es = p0 at *
  have HJM : Hid (∀ pre W, J pre W → Mm W B M) := hJM
  have HJB : Hid (∀ pre W W', J pre W → Below W.heap.size W W' → J pre W') := hJB
  have hp0 : (p0 : Int) ≤ 20000 := by omega
  clear hJM hJB tr
  refine callsIn_of_wp Try.func54 rfl trivial ?_ rfl
  simp only [Try.ntmps54, List.size_toArray, List.length_cons, List.length_nil, Nat.reduceAdd, Nat.reduceSub, Array.replicate_succ, Array.replicate_zero, List.push_toArray, List.append_toArray, List.nil_append, List.cons_append]
  gi_wp2_with (refine ⟨trivial, fun h => (by cases h), ?_⟩; gi_at_call 44; refine (callsIn_wide.2 hfd).mono ?_; clear hfd; rintro e w1 ⟨rfl, hb1⟩)
  have hJ1 := HJB.out _ _ _ hJ hb1
  clear hJ hb1
  gi_loopg [9] n.es.length (fun kx s9 wr => ∃ (a : Nat) (P : List Ent), s9 = .int .i64 (a : Int) ∧ n.es.length ≤ kx + a ∧ Hid (J (pre ++ P) wr ∧ Es M f h key L n a P))
  case atStart => exact ⟨p0, [], rfl, by omega, ⟨by simpa using hJ1, hst0⟩⟩
  case round =>
    obtain ⟨a, P, rfl, hkx, hS⟩ := hrel
    obtain ⟨k, Lk, Fk, hka, htk, hsk, hlk, hal, hEnd, hNext⟩ := hS.out.2.next
    have mr := HJM.out _ _ hS.out.1
    have hend := end_no mr hn hk
    obtain ⟨_, c1, _, _⟩ := ncell (mr.top b n hn).1
    obtain ⟨rbk, rck, ek, hkc, hkm, hkb, k0⟩ := mr.kid hn hka
    rw [ek] at c1
    have hab : (a : Int) ≤ 20000 := by omega
    have ha0 : (0 : Int) ≤ (a : Int) := by omega
    have hakl : a < n.ks.length := by omega
    have haki : (a : Int) < (n.ks.length : Int) := by omega
    have hZ : ∃ Z, rg key L = P ++ rg key Lk ++ Z := by
      by_cases hae : a = n.es.length
      · exact ⟨[], by rw [hEnd hae]; simp⟩
      · obtain ⟨_, C, hC⟩ := hNext _ (List.getElem?_eq_getElem (by omega))
        exact ⟨_, hC⟩
    obtain ⟨Z, hZ⟩ := hZ
    have HZ : Hid (rg key L = P ++ rg key Lk ++ Z) := hZ
    have hkid := ih (m - 1) k Lk Fk (pre ++ P) wr htk hsk (by omega) hS.out.1 ⟨Z ++ Z0, by rw [hZ0, hZ]; simp⟩
    have HAL : Hid (a ≤ n.es.length ∧ n.es.length ≤ 20000) := hide (by omega)
    clear hZ hsk htk hlk hka hksl hkc hkm
    gi_wp2_with (refine ⟨trivial, fun h => (by cases h), ?_⟩; gi_at_call 39; refine (callsIn_wide.2 hend).mono ?_; rintro e w3 ⟨rfl, h3⟩; rw [h3]; clear h3 w3)
    refine ⟨trivial, fun h => (by cases h), ?_⟩
    gi_at_call 54
    refine hkid.mono ?_
    clear hkid
    rintro e W1 (⟨rfl, hJ1⟩ | ⟨rfl, q, hq, hx1⟩)
    · have mr1 := HJM.out _ _ hJ1
      obtain ⟨c0, _, _, _⟩ := ncell (mr1.top b n hn).1
      clear c1 k0 ek
      by_cases hae : a = n.es.length
      · obtain ⟨ea, ec, ev, _, _⟩ := (mr1.ents b n hn).len
        rw [ev] at c0
        have HE : Hid (J (pre ++ rg key L) W1) := by
          rw [hEnd hae, ← List.append_assoc]; exact hJ1
        clear hEnd hNext
        subst hae
        go_simp
        gi_wp2
        go_ret
        exact Or.inl ⟨rfl, HE.out⟩
      · have hal2 : a < n.es.length := by omega
        obtain ⟨x, hx⟩ : ∃ x, n.es[a]? = some x := ⟨_, List.getElem?_eq_getElem hal2⟩
        obtain ⟨rb, rc, ev, _, _, _, d0, d1, _, _⟩ := mr1.ent hn hx
        rw [ev] at c0
        obtain ⟨hes, C, hC⟩ := hNext x hx
        have HES : Hid (Es M f h key L n (a + 1) (P ++ rg key Lk ++ [x])) := hes
        have HC : Hid (rg key L = P ++ rg key Lk ++ x :: C) := hC
        have hyl := hY (m - 1) (pre ++ P ++ rg key Lk) x W1 hJ1 ⟨C ++ Z0, by rw [hZ0, hC]; simp⟩
        have hali : (a : Int) < (n.es.length : Int) := by omega
        have hane : (a : Int) ≠ (n.es.length : Int) := by omega
        obtain ⟨fn, tmps, assign, body, hy, hR⟩ := hyl
        clear hEnd hNext hes hC
        go_simp
        gi_wp2
        refine ⟨fun h => (by cases h), hR.mono ?_⟩
        clear hR hy
        rintro e W2 (⟨rfl, hJ2⟩ | ⟨rfl, hx2⟩)
        · gi_wp2
          gi_roundg (gk - 1)
          case rel => exact ⟨a + 1, P ++ rg key Lk ++ [x], rfl, by omega, ⟨by simpa [List.append_assoc] using hJ2, HES.out⟩⟩
          case measure => omega
        · gi_wp2
          go_ret
          exact Or.inr ⟨rfl, P ++ rg key Lk ++ [x], ⟨C, by rw [HC.out]; simp⟩, by simpa [List.append_assoc] using hx2⟩
    · go_simp
      gi_wp2
      go_ret
      obtain ⟨r, hr⟩ := hq
      exact Or.inr ⟨rfl, P ++ q, ⟨r ++ Z, by rw [HZ.out, ← hr]; simp⟩, by rw [← List.append_assoc]; exact hx1⟩

/-- **each**: the entries of a tree from a key on; or as many of them as the rounds want. -/
theorem each_any (l B : Nat) (M : Mp) (f : Nat) (key : ByteArray) (T : List Ent) (J Jx : List Ent → World → Prop) (hJM : ∀ pre W, J pre W → Mm W B M) (hJB : ∀ pre W W', J pre W → Below W.heap.size W W' → J pre W')
    (hY : ∀ m pre x W, J pre W → (∃ Z, T = pre ++ x :: Z) → YieldAt Fence.wide m Try.prog l #[.agg #[.string x.key, .int .i64 x.n]] W fun e W' => (e = .returned (.bool true) ∧ J (pre ++ [x]) W') ∨ (e = .returned (.bool false) ∧ Jx (pre ++ [x]) W')) :
    ∀ (h m b : Nat) (L : List Ent) (F : List Nat) (pre : List Ent) (W : World), Tr M f h b L F → Srt L → L.length ≤ 20000 → J pre W → (∃ Z, T = pre ++ (rg key L ++ Z)) →
      CallsIn Fence.wide m Try.prog 54 #[.pointer (some ⟨b, 0, none⟩), .string key, .func (.yield l) #[] #[]] W fun e W' => (e = .returned (.bool true) ∧ J (pre ++ rg key L) W') ∨ (e = .returned (.bool false) ∧ ∃ q, q <+: rg key L ∧ Jx (pre ++ q) W') := by
  intro h
  induction h with
  | zero =>
    rintro m b L F pre W ⟨n, hn, hk, hL, _⟩ hs hlen hJ hT
    exact each_end l B M key T J Jx hJM hJB hY m b L n pre W hn hk hL hs hlen hJ hT
  | succ h ih =>
    intro m b L F pre W tr hs hlen hJ hT
    obtain ⟨n, hn⟩ := tr.dom
    exact each_node l B M f h key T J Jx hJM hJB hY ih m b L F n pre W tr hn hs hlen hJ hT

end Go.Proofs.Ytkfoddblgdmabaa.tr

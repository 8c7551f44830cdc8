/-
  PageDiffs: the walk.
-/
import Derived.Test.YtlfpoeimgoikkaaGDiffsL
import Derived.Test.YtlfpoeimgoikkaaGAwake
namespace Go.Proofs.Ytlfpoeimgoikkaa
open Go.RowKit Go.Maps

/-- A row of spans that was handed out, later. -/
structure DK (lo hi : Nat) (w' : World) (AD : Option Addr) (N CAP : Nat) (S : List SpE) (la lb : List UInt8) : Prop where
  own : w'.ownsRow lo 52 4 (.slice AD N CAP) N (spv S)
  map : S.map (fun e => (e.off, e.off + e.n)) = dd la lb
  oks : ∀ e ∈ S, Blk w' e.bo ((la.drop e.off).take e.n) ∧ Blk w' e.bn ((lb.drop e.off).take e.n)
  rise : Rise lo hi S
theorem DOut.dk {w w' : World} {AD : Option Addr} {N CAP : Nat} {S : List SpE} {la lb : List UInt8} (h : DOut w w' AD N CAP S (dd la lb) la lb) : DK w.heap.size w'.heap.size w' AD N CAP S la lb := ⟨h.own, h.map, h.oks, h.rise⟩
theorem DK.kept {lo hi : Nat} {w w' : World} {AD : Option Addr} {N CAP : Nat} {S : List SpE} {la lb : List UInt8} {L : List Nat} (h : DK lo hi w AD N CAP S la lb) (f : Fr L w w') (hL : ∀ g ∈ L, g < lo) : DK lo hi w' AD N CAP S la lb := by
  refine ⟨?_, h.map, fun e he => ?_, h.rise⟩
  · obtain ⟨h1, h2⟩ := h.own
    refine ⟨h1, ?_⟩
    rcases h2 with hn | ⟨g, cap, cur, e, hb, hg, r⟩
    · exact Or.inl hn
    · exact Or.inr ⟨g, cap, cur, e, hb, f.same (fun hm => by have := hL g hm; omega) hg, r⟩
  · have m1 : e.bo ∈ blksOf S := List.mem_flatMap.2 ⟨e, he, by simp⟩
    have m2 : e.bn ∈ blksOf S := List.mem_flatMap.2 ⟨e, he, by simp⟩
    exact ⟨(h.oks e he).1.kept f (fun hm => by have := hL _ hm; have := (h.rise.2 _ m1).1; omega), (h.oks e he).2.kept f (fun hm => by have := hL _ hm; have := (h.rise.2 _ m2).1; omega)⟩
theorem DK.len {lo hi : Nat} {w : World} {AD : Option Addr} {N CAP : Nat} {S : List SpE} {la lb : List UInt8} (h : DK lo hi w AD N CAP S la lb) : S.length = N ∧ (dd la lb).length = N := by
  have h1 := h.own.1
  rw [spv_length] at h1
  have h2 := congrArg List.length h.map
  rw [List.length_map] at h2
  omega
theorem DK.at {lo hi : Nat} {w : World} {AD : Option Addr} {N CAP : Nat} {S : List SpE} {la lb : List UInt8} (h : DK lo hi w AD N CAP S la lb) (i : Nat) (hi' : i < S.length) : S[i].off < S[i].off + S[i].n ∧ S[i].off + S[i].n ≤ 512 ∧ la.length = 512 ∧ lb.length = 512 := by
  have hm := h.map
  by_cases hh : la.length = 512 ∧ lb.length = 512
  · unfold dd at hm
    rw [if_pos hh] at hm
    have hlt : i < (diffS la lb).length := by rw [← hm, List.length_map]; exact hi'
    have tok := diff_tok la lb i hlt
    have e : (diffS la lb)[i] = (S[i].off, S[i].off + S[i].n) := by
      have h1 : (diffS la lb)[i]? = some (S[i].off, S[i].off + S[i].n) := by rw [← hm, List.getElem?_map, List.getElem?_eq_getElem hi']; rfl
      exact (List.getElem?_eq_some_iff.1 h1).2
    rw [e] at tok
    exact ⟨tok.lt, tok.le, hh.1, hh.2⟩
  · unfold dd at hm
    rw [if_neg hh] at hm
    have : S = [] := by simpa using hm
    subst this
    simp at hi'
theorem DK.sps {lo hi : Nat} {w : World} {AD : Option Addr} {N CAP : Nat} {S : List SpE} {la lb : List UInt8} (h : DK lo hi w AD N CAP S la lb) : SpsAt w AD (dd la lb) la lb := by
  intro i f t hi'
  have hiS : i < S.length := by
    have := (List.getElem?_eq_some_iff.1 hi').1
    rw [← h.map, List.length_map] at this
    exact this
  have hat := h.at i hiS
  rw [← h.map, List.getElem?_map, List.getElem?_eq_getElem hiS] at hi'
  have h2 : S[i].off = f ∧ S[i].off + S[i].n = t := by simpa using hi'
  obtain ⟨gl, rfl, r0, r1, r2, r3⟩ := span_atB h.own i hiS h.len.1
  have bks := h.oks S[i] (List.getElem_mem hiS)
  have hn : S[i].n = t - f := by omega
  rw [hn] at r2 r3 bks
  rw [h2.1] at r1 bks
  exact ⟨gl, _, _, _, _, rfl, r0, r1, r2, r3, bks.1.bytes, bks.2.bytes, by omega, by omega⟩
theorem DK.bound {lo hi : Nat} {w : World} {AD : Option Addr} {N CAP : Nat} {S : List SpE} {la lb : List UInt8} (h : DK lo hi w AD N CAP S la lb) : ∀ e ∈ S, e.off + e.n ≤ la.length ∧ e.off + e.n ≤ lb.length := by
  intro e he
  obtain ⟨i, hi', rfl⟩ := List.getElem_of_mem he
  have := h.at i hi'
  omega

set_option maxHeartbeats 400000 in
set_option maxRecDepth 100000 in
theorem diffs_big (W : World) (a1 : Option Addr) (n1 c1 : Nat) (hs1 : n1 < 9223372036854775808) (a2 : Option Addr) (n2 c2 : Nat) (hs2 : n2 < 9223372036854775808) (h : 5000 < n1 ∨ 5000 < n2) :
    Calls Try.prog 5 #[.slice a1 n1 c1, .slice a2 n2 c2] W fun e W' => e = .returned (.bool true) ∧ Fr [] W W' := by
  by_cases h1 : 5000 < n1
  · have q1 : (5000 : Int) < (n1 : Int) := by omega
    clear h
    go_enter Try.func5, Try.ntmps5
    go_wp2_with fail
    refine (awake_any _).mono ?_
    rintro e w1 ⟨rfl, f1⟩
    go_wp2_with fail
    go_ret
    exact ⟨rfl, f1⟩
  · have q1 : ¬ (5000 : Int) < (n1 : Int) := by omega
    have q2 : (5000 : Int) < (n2 : Int) := by omega
    clear h
    go_enter Try.func5, Try.ntmps5
    go_wp2_with fail
    refine (awake_any _).mono ?_
    rintro e w1 ⟨rfl, f1⟩
    go_wp2_with fail
    go_ret
    exact ⟨rfl, f1⟩

set_option maxHeartbeats 2000000 in
set_option maxRecDepth 100000 in
theorem diffs_law (W : World) (a1 : Option Addr) (n1 c1 : Nat) (l1 : List UInt8) (h1 : SlAt W a1 n1 c1 l1) (hs1 : n1 < 9223372036854775808) (hz1 : a1 = none → c1 = 0) (a2 : Option Addr) (n2 c2 : Nat) (l2 : List UInt8) (h2 : SlAt W a2 n2 c2 l2) (hs2 : n2 < 9223372036854775808) (hz2 : a2 = none → c2 = 0) :
    Calls Try.prog 5 #[.slice a1 n1 c1, .slice a2 n2 c2] W fun e W' => e = .returned (.bool true) ∧ Fr [] W W' := by
  by_cases hbig : 5000 < n1 ∨ 5000 < n2
  · exact diffs_big W a1 n1 c1 hs1 a2 n2 c2 hs2 hbig
  have q1 : ¬ (5000 : Int) < (n1 : Int) := by omega
  have q2 : ¬ (5000 : Int) < (n2 : Int) := by omega
  have hn1 : n1 ≤ 5000 := by omega
  have hn2 : n2 ≤ 5000 := by omega
  have H1 := (show Hid (SlAt W a1 n1 c1 l1) from h1)
  have H2 := (show Hid (SlAt W a2 n2 c2 l2) from h2)
  clear h1 h2 hbig
  go_enter Try.func5, Try.ntmps5
  go_wp2_with fail
  refine (lent_sl W a1 n1 c1 l1 H1.out hn1 hz1).mono ?_
  rintro e w1 ⟨g1, k1, rfl, L1, hg1, f1, -⟩
  have hg1' : g1 < w1.heap.size := by obtain ⟨cur, hc, -⟩ := L1.ex; exact (Array.getElem?_eq_some_iff.1 hc).1
  go_wp2_with fail
  refine (lent_sl w1 a2 n2 c2 l2 ⟨H2.out.len, H2.out.bytes.kept f1 (by simp), H2.out.cap⟩ hn2 hz2).mono ?_
  rintro e w2 ⟨g2, k2, rfl, L2, hg2, f2, -⟩
  have hg2' : g2 < w2.heap.size := by obtain ⟨cur, hc, -⟩ := L2.ex; exact (Array.getElem?_eq_some_iff.1 hc).1
  have hs12 := f2.size
  have hsW := f1.size
  have F2 := f1.trans f2
  have L12 := L1.kept f2 (by simp)
  go_wp2_with fail
  refine (diff_any w2 g1 k1 n1 g2 k2 n2 l1 l2 (L12.sl H1.out.len) (L2.sl H2.out.len)).mono ?_
  rintro e w3 ⟨AD1, N1, CAP1, S1, rfl, D1⟩
  have f3 := D1.fr
  have b1 := D1.own.lt
  have d1 := D1.dk
  clear D1
  go_wp2_with fail
  refine (diff_any w3 g1 k1 n1 g2 k2 n2 l1 l2 ((L12.kept f3 (by simp)).sl H1.out.len) ((L2.kept f3 (by simp)).sl H2.out.len)).mono ?_
  rintro e w4 ⟨AD2, N2, CAP2, S2, rfl, D2⟩
  have f4 := D2.fr
  have d2 := D2.dk
  clear D2
  have f24 := f3.trans f4
  have F4 := F2.trans f24
  go_wp2_with fail
  refine (kept_any w4 g1 k1 n1 c1 a1 l1 H1.out.len hn1 (L12.kept f24 (by simp)) (H1.out.bytes.kept F4 (by simp))).mono ?_
  rintro e w5 ⟨rfl, f5⟩
  have F5 := F4.trans f5
  go_wp2_with fail
  refine (kept_any w5 g2 k2 n2 c2 a2 l2 H2.out.len hn2 (L2.kept (f24.trans f5) (by simp)) (H2.out.bytes.kept F5 (by simp))).mono ?_
  rintro e w6 ⟨rfl, f6⟩
  have F6 := F5.trans f6
  have f46 := f5.trans f6
  go_wp2_with fail
  refine (over_any w6 g1 k1 n1 l1 H1.out.len hn1 (L12.kept (f24.trans f46) (by simp))).mono ?_
  rintro e w7 ⟨rfl, f7⟩
  have F7 := F6.then f7 (fun i hi hm => by simp at hm; omega)
  go_wp2_with fail
  refine (over_any w7 g2 k2 n2 l2 H2.out.len hn2 ((L2.kept (f24.trans f46) (by simp)).kept f7 (by simp; omega))).mono ?_
  rintro e w8 ⟨rfl, f8⟩
  have F8 := F7.then f8 (fun i hi hm => by simp at hm; omega)
  have hsz2 : w2.heap.size ≤ w3.heap.size := f3.size
  have e1 := ((((d1.kept f4 (fun g hg => nomatch hg)).kept f46 (fun g hg => nomatch hg)).kept f7 (fun g hg => by simp at hg; omega)).kept f8 (fun g hg => by simp at hg; omega))
  have e2 := (((d2.kept f46 (fun g hg => nomatch hg)).kept f7 (fun g hg => by simp at hg; omega)).kept f8 (fun g hg => by simp at hg; omega))
  have E1 := (show Hid (DK w2.heap.size w3.heap.size w8 AD1 N1 CAP1 S1 l1 l2) from e1)
  have E2 := (show Hid (DK w3.heap.size w4.heap.size w8 AD2 N2 CAP2 S2 l1 l2) from e2)
  have B1 := (show Hid (∀ g, (Value.slice AD1 N1 CAP1).ownBlock = some g → w2.heap.size ≤ g ∧ g < w3.heap.size) from b1)
  clear L1 L2 L12 f1 f2 f3 f4 f5 f6 f7 f8 f24 f46 d1 d2 e1 e2 b1 F2 F4 F5 F6 F7
  go_wp2_with fail
  refine (rdiff_any w8 a1 a2 n1 c1 n2 c2 l1 l2 ⟨H1.out.len, H1.out.bytes.kept F8 (by simp), H1.out.cap⟩ ⟨H2.out.len, H2.out.bytes.kept F8 (by simp), H2.out.cap⟩).mono ?_
  rintro e w9 ⟨AD3, N3, CAP3, rfl, hN3, sp3, f9⟩
  have x1 := E1.out.kept f9 (fun g hg => nomatch hg)
  obtain ⟨s1, s2⟩ := x1.len
  have hN13 : N3 = N1 := by omega
  subst hN13
  have hle := dd_len l1 l2
  have SP3 := (show Hid (SpsAt w9 AD3 (dd l1 l2) l1 l2) from sp3)
  have X1 := (show Hid (DK w2.heap.size w3.heap.size w9 AD1 N3 CAP1 S1 l1 l2) from x1)
  clear sp3 x1
  go_wp2_with fail
  refine (sameSpans_dd w9 AD1 AD3 N3 CAP1 CAP3 l1 l2 s2 X1.out.sps SP3.out).mono ?_
  rintro e w10 ⟨rfl, f10⟩
  have y1 := X1.out.kept f10 (fun g hg => nomatch hg)
  have y2 := E2.out.kept (f9.trans f10) (fun g hg => nomatch hg)
  obtain ⟨s3, s4⟩ := y2.len
  have HAP := (show Hid (Calls Try.prog 23 #[.slice (some ⟨w10.heap.size, 0, none⟩) 2 2] (w10.alloc (.cells #[.slice AD1 N3 CAP1, .slice AD2 N2 CAP2] 37)) fun e w' => e = .returned (.bool true) ∧ ∃ G, (∀ g ∈ G, w2.heap.size ≤ g) ∧ Fr G (w10.alloc (.cells #[.slice AD1 N3 CAP1, .slice AD2 N2 CAP2] 37)) w') from two_apart w10 w2.heap.size w3.heap.size w4.heap.size AD1 AD2 N3 N2 CAP1 CAP2 S1 S2 l1 l2 (by rw [H1.out.len]; exact hn1) y1.own y2.own (fun g e => (B1.out g e).2) y1.oks y2.oks y1.bound y2.bound y1.rise y2.rise hsz2 (by omega) (by omega))
  have F10 := (F8.trans f9).trans f10
  clear y1 y2
  go_wp2_with fail
  refine HAP.out.mono ?_
  rintro e w11 ⟨rfl, G, hG, f11⟩
  go_wp2_with fail
  refine (awake_any _).mono ?_
  rintro e w12 ⟨rfl, f12⟩
  go_wp2_with fail
  go_ret
  exact ⟨rfl, ((F10.alloc _).then f11 (fun i hi hm => by have h1 := hG i hm; omega)).trans f12⟩

end Go.Proofs.Ytlfpoeimgoikkaa

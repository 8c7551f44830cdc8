/-
  An argument that is a row of nodes: how long it is.
-/
import Derived.Test.YtjdcfaaoicnajaaDoorXW
import Derived.Test.YtjdcfaaoicnajaaDoorXL
import Derived.Test.YtjdcfaaoicnajaaDoorTOpen2
namespace Go.Proofs.YtjdcfaaoicnajaaDoor
open Go.RowKit Go.Maps Go.Lib

section
variable {t : List Nd} {b0 off c : Nat}
theorem refw_any (G : Good t) (hl : t.length ≤ 16384) : ∀ n, RefWC t b0 off c n
  | 0 => fun w x _ hx hn => by omega
  | n + 1 => fun w x hN hx hn => by
    by_cases h1 : knd t x = 1
    · exact rinner1 G hl (refw_any G hl n) w x hN hx hn h1
    · by_cases h2 : knd t x = 2
      · exact rinner2 G hl (refw_any G hl n) w x hN hx hn h2
      · rw [outN_leaf (by omega) h1 h2]
        exact rleaf_step G w x hN hx h1 h2
end
set_option maxHeartbeats 2000000 in
theorem refPrint_any (w : World) (ad : Option Addr) (c n : Nat) (t : List Nd) (hn : t.length = n) (hN : NodesAt w ad t) (hl : n ≤ 1000) (hZ : Short t) :
    Calls Tryd.prog 12 #[.slice ad n c] w fun e w' => e = .returned (.tuple #[.string (mkS (printL t)), .int .i64 (printE t)]) ∧ Fr [] w w' := by
  have cC := Hid.mk (refCheck_any w ad c n t hn hN hl hZ)
  unfold printL printE
  by_cases hj : judged t (oneB t) = 0
  · rw [if_pos hj, if_pos hj]
    obtain ⟨G, hl5, h0⟩ := one_ok hj
    subst hn
    obtain ⟨b0, off, rfl, hI⟩ := hN.in h0
    have cW := Hid.mk (fun w' (f : Fr [] w w') => refw_any (c := c) G hl5 t.length w' 0 (hI.kept f (by simp)) h0 (by omega))
    rw [hj] at cC
    clear hN hI G hj hZ
    go_enter Tryd.func12, Tryd.ntmps12
    go_wp2_with fail
    refine cC.out.mono ?_
    rintro e w5 ⟨rfl, f5⟩
    go_wp2_with fail
    refine (cW.out _ f5).mono ?_
    rintro e w6 ⟨rfl, f6⟩
    go_wp2_with fail
    go_ret2
    exact ⟨rfl, f5.trans f6⟩
  · rw [if_neg hj, if_neg hj]
    have hb : (((judged t (oneB t) : Nat) : Int) != 0) = true := by rw [bne_iff_ne]; omega
    generalize judged t (oneB t) = J at cC hb
    clear hN hj hZ
    go_enter Tryd.func12, Tryd.ntmps12
    go_wp2_with fail
    refine cC.out.mono ?_
    rintro e w5 ⟨rfl, f5⟩
    go_wp2_with fail
    go_ret2
    exact ⟨rfl, f5⟩
set_option maxHeartbeats 4000000 in
theorem refNode_any (w : World) (ad : Option Addr) (c n : Nat) (t : List Nd) (hn : t.length = n) (hN : NodesAt w ad t) (hl : n ≤ 1000) (hZ : Short t) (k : Int) :
    Calls Tryd.prog 13 #[.slice ad n c, .int .i64 k] w fun e w' => e = .returned (.tuple #[.string (mkS (nodeL t k)), .int .i64 (nodeE t k)]) ∧ Fr [] w w' := by
  have cC := Hid.mk (refCheck_any w ad c n t hn hN hl hZ)
  have cF := Hid.mk (fun w' (f : Fr [] w w') => refFragment_any w' ad c n t hn (hN.kept f) hl hZ)
  have cW := Hid.mk (fun (ho : nodeOk t = true) (hk : 0 ≤ k ∧ k < (t.length : Int)) => (show ∀ w', Fr [] w w' → Calls Tryd.prog 24 #[.slice ad n c, .int .i64 k] w' fun e w'' => e = .returned (.string (mkS (outN t t.length k.toNat))) ∧ Fr [] w' w'' from by
    intro w' f
    obtain ⟨G, hl5⟩ := nodeOk_good ho
    subst hn
    obtain ⟨b0, off, rfl, hI⟩ := hN.in (by omega)
    obtain ⟨m, rfl⟩ : ∃ m : Nat, k = (m : Int) := ⟨k.toNat, by omega⟩
    rw [Int.toNat_natCast]
    exact refw_any (c := c) G hl5 t.length w' m (hI.kept f (by simp)) (by omega) (by omega)))
  obtain ⟨J1, h1⟩ : ∃ J1, judged t (oneB t) = J1 := ⟨_, rfl⟩
  obtain ⟨J2, h2⟩ : ∃ J2, judged t (noB t) = J2 := ⟨_, rfl⟩
  have hO : nodeOk t = (decide (J1 = 0) || decide (J2 = 0)) := by unfold nodeOk; rw [h1, h2]
  unfold nodeL nodeE
  rw [h1] at cC
  rw [h2] at cF
  have hnn : (t.length : Int) = (n : Int) := by rw [hn]
  rw [hnn] at cW ⊢
  clear hN h1 h2 hn hnn hZ
  by_cases ho : nodeOk t = true
  · rw [if_pos ho, if_pos ho]
    have cW' := Hid.mk (cW.out ho)
    have hJ : J1 = 0 ∨ (J1 ≠ 0 ∧ J2 = 0) := by
      rw [hO, Bool.or_eq_true, decide_eq_true_eq, decide_eq_true_eq] at ho
      rcases ho with h | h
      · exact Or.inl h
      · by_cases e : J1 = 0
        · exact Or.inl e
        · exact Or.inr ⟨e, h⟩
    clear cW hO ho
    by_cases hk0 : k < 0
    · have d0 : decide (k < 0) = true := decide_eq_true hk0
      rw [if_neg (by omega), if_neg (by omega)]
      rcases hJ with rfl | ⟨hj, rfl⟩
      · go_enter Tryd.func13, Tryd.ntmps13
        go_wp2_with (first | (go_at_call 23; refine cC.out.mono ?_; rintro e w5 ⟨rfl, f5⟩))
        go_ret2
        exact ⟨rfl, f5⟩
      · have hb : (((J1 : Nat) : Int) != 0) = true := by rw [bne_iff_ne]; omega
        clear hj
        go_enter Tryd.func13, Tryd.ntmps13
        go_wp2_with (first | (go_at_call 23; refine cC.out.mono ?_; rintro e w5 ⟨rfl, f5⟩) | (go_at_call 25; refine (cF.out _ f5).mono ?_; rintro e w6 ⟨rfl, f6⟩))
        go_ret2
        exact ⟨rfl, f5.trans f6⟩
    · have d0 : decide (k < 0) = false := decide_eq_false hk0
      by_cases hk1 : (n : Int) ≤ k
      · rw [if_neg (by omega), if_neg (by omega)]
        rcases hJ with rfl | ⟨hj, rfl⟩
        · go_enter Tryd.func13, Tryd.ntmps13
          go_wp2_with (first | (go_at_call 23; refine cC.out.mono ?_; rintro e w5 ⟨rfl, f5⟩))
          go_ret2
          exact ⟨rfl, f5⟩
        · have hb : (((J1 : Nat) : Int) != 0) = true := by rw [bne_iff_ne]; omega
          clear hj
          go_enter Tryd.func13, Tryd.ntmps13
          go_wp2_with (first | (go_at_call 23; refine cC.out.mono ?_; rintro e w5 ⟨rfl, f5⟩) | (go_at_call 25; refine (cF.out _ f5).mono ?_; rintro e w6 ⟨rfl, f6⟩))
          go_ret2
          exact ⟨rfl, f5.trans f6⟩
      · rw [if_pos (by omega), if_pos (by omega)]
        have cX := Hid.mk (cW'.out (by omega))
        rcases hJ with rfl | ⟨hj, rfl⟩
        · go_enter Tryd.func13, Tryd.ntmps13
          go_wp2_with (first | (go_at_call 23; refine cC.out.mono ?_; rintro e w5 ⟨rfl, f5⟩) | (go_at_call 24; refine (cX.out _ f5).mono ?_; rintro e w7 ⟨rfl, f7⟩))
          go_ret2
          exact ⟨rfl, f5.trans f7⟩
        · have hb : (((J1 : Nat) : Int) != 0) = true := by rw [bne_iff_ne]; omega
          clear hj
          go_enter Tryd.func13, Tryd.ntmps13
          go_wp2_with (first | (go_at_call 23; refine cC.out.mono ?_; rintro e w5 ⟨rfl, f5⟩) | (go_at_call 25; refine (cF.out _ f5).mono ?_; rintro e w6 ⟨rfl, f6⟩; have f56 := f5.trans f6) | (go_at_call 24; refine (cX.out _ f56).mono ?_; rintro e w7 ⟨rfl, f7⟩))
          go_ret2
          exact ⟨rfl, f56.trans f7⟩
  · rw [if_neg ho, if_neg ho]
    have hJ : J1 ≠ 0 ∧ J2 ≠ 0 := by
      rw [hO, Bool.or_eq_true, decide_eq_true_eq, decide_eq_true_eq, not_or] at ho
      exact ho
    have hb : (((J1 : Nat) : Int) != 0) = true := by rw [bne_iff_ne]; omega
    have hb2 : (((J2 : Nat) : Int) != 0) = true := by rw [bne_iff_ne]; omega
    clear cW hO ho hJ
    go_enter Tryd.func13, Tryd.ntmps13
    go_wp2_with (first | (go_at_call 23; refine cC.out.mono ?_; rintro e w5 ⟨rfl, f5⟩) | (go_at_call 25; refine (cF.out _ f5).mono ?_; rintro e w6 ⟨rfl, f6⟩))
    go_ret2
    exact ⟨rfl, f5.trans f6⟩
end Go.Proofs.YtjdcfaaoicnajaaDoor

namespace Go.Proofs.YtjdcfaaoicnajaaDoor
open Go.RowKit Go.Maps Go.Lib

set_option maxHeartbeats 4000000 in
set_option maxRecDepth 100000 in
theorem great_any (w : World) (ad : Option Addr) (c n : Nat) (t : List Nd) (hn : t.length = n) (hN : NodesAt w ad t) (hZ : Short t) (hn2 : n < 140737488355328) :
    Calls Tryd.prog 6 #[.slice ad n c] w fun e w' => (∃ B : Bool, e = .returned (.bool B) ∧ Hid (B = false → n ≤ 1000)) ∧ Fr [] w w' := by
  have HN := Hid.mk hN
  have HL := Hid.mk hn
  have HZ := Hid.mk hZ
  have hn3 : (n : Int) < 140737488355328 := by omega
  clear hN hn hZ
  go_enter Tryd.func6, Tryd.ntmps6
  go_wp2_with go_in
  go_loopw [3, 4] (fun s3 s4 wr => ∃ (i m : Nat), s4 = .int .i64 (i : Int) ∧ i ≤ n ∧ s3 = .int .i64 (m : Int) ∧ m ≤ 600000000000000 ∧ Hid (Fr [] w wr)) (fun _ s4 _ => n - (RowKit.intOf s4).toNat)
  case atStart => exact ⟨0, 0, rfl, by omega, rfl, by omega, Fr.refl _ _⟩
  case round =>
    obtain ⟨i, m, rfl, hi, rfl, hm, hF⟩ := hrel
    have hi0 : (0 : Int) ≤ (i : Int) := by omega
    have hm0 : (0 : Int) ≤ (m : Int) := by omega
    have hm1 : (m : Int) ≤ 600000000000000 := by omega
    by_cases hlt : i < n
    · have hlt' : (i : Int) < (n : Int) := by omega
      by_cases hmm : m ≤ 60000
      · have hmm' : (m : Int) ≤ 60000 := by omega
        have dl : decide ((i : Int) < (n : Int)) = true := by simpa using hlt
        obtain ⟨b, off, rfl, c0, c1, c2, c3⟩ := (HN.out.kept hF.out) i (by rw [HL.out]; exact hlt)
        obtain ⟨z1, z2⟩ := HZ.out i (by rw [HL.out]; exact hlt)
        generalize nam t i = NM at c1 z1
        generalize vlu t i = VL at c2 z2
        have z1' : (NM.size : Int) < 140737488355328 := by omega
        have z2' : (VL.size : Int) < 140737488355328 := by omega
        have y1 : (0 : Int) ≤ (NM.size : Int) := by omega
        have y2 : (0 : Int) ≤ (VL.size : Int) := by omega
        have w1 : IntKind.i64.wrap ((m : Int) + (VL.size : Int)) = (m : Int) + (VL.size : Int) := by simp [IntKind.wrap, IntKind.bits, IntKind.signed]; omega
        have w2 : IntKind.i64.wrap ((m : Int) + (VL.size : Int) + (NM.size : Int)) = (m : Int) + (VL.size : Int) + (NM.size : Int) := by simp [IntKind.wrap, IntKind.bits, IntKind.signed]; omega
        clear c0 c3
        go_wp2_with fail
        go_quiet (fail)
        go_wp2_with fail
        exact ⟨⟨i + 1, m + VL.size + NM.size, by go_num, by omega, by congr 1, by omega, hF.out.drewN _⟩, by simp [RowKit.intOf]; omega⟩
      · have hmm' : ¬ (m : Int) ≤ 60000 := by omega
        have hmg : (60000 : Int) < (m : Int) := by omega
        by_cases hbig : (1000 : Int) < (n : Int)
        · go_wp2_with fail
          go_ret
          exact ⟨Or.inr ⟨rfl, Hid.mk trivial⟩, hF.out⟩
        · go_wp2_with fail
          go_ret
          exact ⟨Or.inr ⟨rfl, Hid.mk trivial⟩, hF.out⟩
    · have hlt' : ¬ (i : Int) < (n : Int) := by omega
      have dl : decide ((i : Int) < (n : Int)) = false := by simpa using hlt
      by_cases hbig : (1000 : Int) < (n : Int)
      · go_wp2_with fail
        go_ret
        exact ⟨Or.inr ⟨rfl, Hid.mk trivial⟩, hF.out⟩
      · by_cases hmg : (60000 : Int) < (m : Int)
        · go_wp2_with fail
          go_ret
          exact ⟨Or.inr ⟨rfl, Hid.mk trivial⟩, hF.out⟩
        · go_wp2_with fail
          go_ret
          exact ⟨Or.inl ⟨rfl, Hid.mk (by omega)⟩, hF.out⟩
set_option maxHeartbeats 8000000 in
set_option maxRecDepth 100000 in
theorem ptells_law (w : World) (L : LaidW w) (ad : Option Addr) (c n : Nat) (t : List Nd) (hn : t.length = n) (hN : NodesAt w ad t) (hS : Sane t) (hZ : Short t) (hnil : ad = none → c = 0) (hn2 : n < 140737488355328) (k : Int) :
    Calls Tryd.prog 3 #[.slice ad n c, .int .i64 k] w fun e w' => e = .returned (.bool true) ∧ Fr [] w w' := by
  have cA := Hid.mk (fun w' (f : Fr [] w w') => pawake_any w' (L.kept f))
  have cG := Hid.mk (great_any w ad c n t hn hN hZ hn2)
  have HA := Hid.mk hN
  have HN := Hid.mk hn
  have cL := Hid.mk (fun (hl : n ≤ 1000) w' (f : Fr [] w w') => lent_any w' ad c n t hn (hN.kept f) hl hnil)
  have p1 := Hid.mk (fun w' (f : Fr [] w w') g cap (le : LentN w' g cap t) => Print_any w' (L.kept f) (some ⟨g, 0, none⟩) cap n t hn le.nodes.at hS)
  have p2 := Hid.mk (fun w' (f : Fr [] w w') g cap (le : LentN w' g cap t) => Node_any w' (L.kept f) (some ⟨g, 0, none⟩) cap n t hn le.nodes.at hS k)
  have r1 := Hid.mk (fun (hl : n ≤ 1000) w' (f : Fr [] w w') => refPrint_any w' ad c n t hn (hN.kept f) hl hZ)
  have r2 := Hid.mk (fun (hl : n ≤ 1000) w' (f : Fr [] w w') => refNode_any w' ad c n t hn (hN.kept f) hl hZ k)
  generalize mkS (printL t) = X1 at p1 r1
  generalize printE t = E1 at p1 r1
  generalize mkS (nodeL t k) = X2 at p2 r2
  generalize nodeE t k = E2 at p2 r2
  clear L hN hn hnil hS hZ
  go_enter Tryd.func3, Tryd.ntmps3
  go_wp2_with fail
  refine cG.out.mono ?_
  rintro e w1 ⟨⟨B, rfl, hB⟩, f1⟩
  cases B with
  | true =>
    go_wp2_with fail
    refine (cA.out _ f1).mono ?_
    rintro e w2 ⟨rfl, f2⟩
    go_wp2_with fail
    go_ret
    exact ⟨rfl, f1.trans f2⟩
  | false =>
    have hl := hB.out rfl
    have cL' := Hid.mk (cL.out hl)
    have r1' := Hid.mk (r1.out hl)
    have r2' := Hid.mk (r2.out hl)
    clear cL r1 r2
    go_wp2_with fail
    refine (cL'.out _ f1).mono ?_
    rintro e w2 ⟨⟨g, cap, rfl, le2, hg⟩, f2⟩
    have FF := Hid.mk (f1.trans f2)
    have LE := Hid.mk le2
    clear le2 hg f1 f2
    go_wp2_with fail
    refine (p1.out _ FF.out g cap LE.out).mono ?_
    rintro e w3 ⟨rfl, f3⟩
    replace FF := Hid.mk (FF.out.trans f3)
    replace LE := Hid.mk (LE.out.kept f3)
    clear f3
    go_wp2_with fail
    refine (p2.out _ FF.out g cap LE.out).mono ?_
    rintro e w4 ⟨rfl, f4⟩
    replace FF := Hid.mk (FF.out.trans f4)
    replace LE := Hid.mk (LE.out.kept f4)
    clear f4
    go_wp2_with fail
    refine (keptN_any _ g cap n c ad t HN.out hl LE.out (HA.out.kept FF.out)).mono ?_
    rintro e w5 ⟨rfl, f5⟩
    replace FF := Hid.mk (FF.out.trans f5)
    clear f5
    go_wp2_with fail
    refine (r1'.out _ FF.out).mono ?_
    rintro e w6 ⟨rfl, f6⟩
    replace FF := Hid.mk (FF.out.trans f6)
    clear f6
    go_wp2_with fail
    refine (r2'.out _ FF.out).mono ?_
    rintro e w7 ⟨rfl, f7⟩
    replace FF := Hid.mk (FF.out.trans f7)
    clear f7
    go_wp2_with fail
    refine (cA.out _ FF.out).mono ?_
    rintro e w8 ⟨rfl, f8⟩
    go_wp2_with fail
    go_ret
    exact ⟨rfl, FF.out.trans f8⟩
end Go.Proofs.YtjdcfaaoicnajaaDoor

namespace Go.Proofs.YtjdcfaaoicnajaaDoor
open Go.ChangeShapes Go.WideShapes Go.ChangeAt Go.RowKit Go.Deep
section
variable {H : Type} {enc : TypeId × Value → H} {w : World} {base : Nat} {spare : Nat → Bool} {held : Bool}
theorem bytes_node : 0 < Tryd.prog.bytesOf 37 := of_decide_eq_true (by kernel_rfl)
theorem nodes_len {fuel : Nat} {ad : Option Addr} {len cap : Nat} {x : DataW H × List MemPlace} (h : DataW.trod enc Tryd.prog w base spare held fuel 22 [.slice ad len cap] = some x) (hz : ∀ n ∈ x.1.weights Tryd.prog 22, n ≤ reachBytes) : len < 140737488355328 := by
  rcases open_slice Tryd.underlying22 h with ⟨hcs, _⟩ | ⟨a, len', cap', m, n, D, Pl, hcs, _, _, _, _, hx, _⟩
  · simp at hcs
    omega
  · simp at hcs
    obtain ⟨_, rfl, rfl⟩ := hcs
    have h1 := hz ((len + (m - len)) * Tryd.prog.bytesOf 37) (by
      rw [hx]
      simp [DataW.weights, Tryd.underlying22])
    have h2 := reachBytes_lt
    have h3 : len * 1 ≤ (len + (m - len)) * Tryd.prog.bytesOf 37 := Nat.mul_le_mul (by omega) bytes_node
    omega
end
end Go.Proofs.YtjdcfaaoicnajaaDoor


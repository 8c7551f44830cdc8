/-
  BitsPack, walked.
-/
import Derived.Test.YtdkleigkkndecaaRefUnpack
import Derived.Test.YtdkleigkkndecaaAwake
namespace Go.Proofs.Ytdkleigkkndecaa
open Go.RowKit Go.Lib

theorem pack_same {a u : ByteArray} {l : List UInt8} {K : Nat} (hu : Rep u a.size (said (bl a))) (hK : (a.size + 7) / 8 = K) (h : OfTo (bl a) l K a.size) : bl u = l := by
  refine bits_ext (by rw [hu.bl_len, h.len, hK]) (fun i hi => ?_)
  rw [hu.bl_len, hK] at hi
  rw [hu.bit, h.bit i hi]
  unfold said byteAt
  simp only [List.getD_eq_getElem?_getD, List.getElem?_map]
  by_cases h1 : i < a.size
  · rw [List.getElem?_eq_getElem (by rw [bl_length]; exact h1)]
    simp [h1]
  · rw [List.getElem?_eq_none (by rw [bl_length]; omega)]
    simp [h1]

theorem lent_both (w : World) (ad : Option Addr) (n c : Nat) (l : List UInt8) (hl : l.length = n) (hn : n ≤ 5000) (hb : BytesAt w ad l) (hc : ad = none → c = 0) :
    Calls Try.prog 22 #[.slice ad n c] w fun e w' => ∃ g cap, e = .returned (.slice (some ⟨g, 0, none⟩) n cap) ∧ LentAt w' g cap l ∧ w.heap.size ≤ g ∧ Fr [] w w' := by
  cases ad with
  | none =>
    obtain rfl : c = 0 := hc rfl
    have h0 : n = 0 := by
      rcases Nat.eq_zero_or_pos n with h | h
      · exact h
      · obtain ⟨b, off, e, _⟩ := hb.at 0 (by omega)
        cases e
    subst h0
    obtain rfl : l = [] := List.eq_nil_of_length_eq_zero hl
    exact lent_nil w 0 [] rfl (by omega) rfl
  | some a0 => exact lent_any w a0 n c l hl hn hb

set_option maxHeartbeats 4000000 in
set_option maxRecDepth 100000 in
theorem pack_big (w : World) (a : ByteArray) (ad : Option Addr) (m c : Nat) (n : Int) (ha : a.size < 140737488355328) (hm : m < 140737488355328) (h : 5000 < a.size + m) :
    Calls Try.prog 4 #[.string a, .slice ad m c, .int .i64 n] w fun e w' => e = .returned (.bool true) ∧ Fr [] w w' := by
  have h1 : (5000 : Int) < (a.size : Int) + (m : Int) := by omega
  have h2 : (a.size : Int) < 140737488355328 := by omega
  have h3 : (m : Int) < 140737488355328 := by omega
  clear h ha hm
  go_enter Try.func4, Try.ntmps4
  go_wp2_with (go_at_call 9; refine (awake_any _).mono ?_; rintro e w0 ⟨rfl, f0⟩)
  go_ret
  exact ⟨rfl, f0⟩

set_option maxHeartbeats 8000000 in
set_option maxRecDepth 100000 in
theorem pack_small (w : World) (a : ByteArray) (ad : Option Addr) (m c : Nat) (n : Int) (l : List UInt8) (hl : l.length = m) (hb : BytesAt w ad l) (hc : ad = none → c = 0) (h : a.size + m ≤ 5000) :
    Calls Try.prog 4 #[.string a, .slice ad m c, .int .i64 n] w fun e w' => e = .returned (.bool true) ∧ Fr [] w w' := by
  have h1 : (a.size : Int) + (m : Int) ≤ 5000 := by omega
  have h2 : (a.size : Int) ≤ 5000 := by omega
  have h3 : (m : Int) ≤ 5000 := by omega
  have k1 : a.size ≤ 1048576 := by omega
  have k2 : a.size ≤ 5000 := by omega
  have k3 : m ≤ 5000 := by omega
  have HL : Hid (l.length = m) := hl
  have HC : Hid (ad = none → c = 0) := hc
  obtain ⟨K, hK⟩ : ∃ K, (a.size + 7) / 8 = K := ⟨_, rfl⟩
  have HK : Hid ((a.size + 7) / 8 = K) := hK
  clear h hl hc hK
  go_enter Try.func4, Try.ntmps4
  go_wp2_with (go_at_call 9; refine (awake_any _).mono ?_; rintro e w0 ⟨rfl, f0⟩)
  refine (of_in _ a k1).mono ?_
  rintro e w1 ⟨hd, f1⟩
  have g1 := f0.trans f1
  rcases hd with ⟨⟨u, rfl, hu⟩, hall⟩ | ⟨rfl, hno⟩
  · have b1 := Box.new w1 u a.size
    have g1a := g1.alloc (.cells #[.string u, .int .i64 (a.size : Int)] 24)
    have husz : u.size ≤ 16777216 := by rw [hu.size]; omega
    have hulen : Hid ((bl u).length = K) := by show _ = _; rw [hu.bl_len, HK.out]
    clear hall
    go_wp2_with fail
    refine (pack_any _ u a.size husz).mono ?_
    rintro e w2 ⟨pv, rfl, hp, f2⟩
    have g2 := g1a.trans f2
    obtain ⟨pa, pc, hv, hpb, _, _⟩ := hp.bytes
    rw [hulen.out] at hv
    subst hv
    go_wp2_with fail
    refine (rpack_any _ a k2).mono ?_
    rintro e w3 ⟨rv, l2, rfl, ho, hof⟩
    have f3 := ho.2
    have g3 := g2.trans f3
    rw [HK.out] at ho hof
    obtain ⟨ra, rc, rfl, hrb, _⟩ := own_bytes ho hof.len
    have hsm := pack_same hu HK.out hof
    have HQ : Hid ((bl u == l2) = true) := by show _ = _; rw [hsm]; simp
    clear hsm
    go_wp2_with fail
    refine (same_any _ pa ra (bl u) l2 K pc rc (hpb.kept f3 (by simp)) hrb hulen.out hof.len (by have := HK.out; omega)).mono ?_
    rw [HQ.out]
    rintro e w4 ⟨rfl, f4⟩
    have gA := g3.trans f4
    clear g1 g1a g2 g3 f0 f1 f2 f3 f4 b1 hp hpb hrb ho hof
    go_wp2_with fail
    refine (lent_both _ ad m c l HL.out k3 (hb.kept gA (by simp)) HC.out).mono ?_
    rintro e w5 ⟨g, cap, rfl, hlent, hg, f5⟩
    have gB := gA.trans f5
    have hgw : Hid (w.heap.size ≤ g) := by have := gA.size; show _ ≤ _; omega
    clear gA hg f5
    go_wp2_with fail
    refine (unpack_any _ _ m cap n l HL.out hlent.bytes (Or.inr ⟨_, _, rfl⟩)).mono ?_
    rintro e w6 ⟨hd, f6⟩
    have gC := gB.trans f6
    have hlent6 := hlent.kept f6 (by simp)
    clear gB hlent
    rcases hd with ⟨he, hok⟩ | ⟨rfl, hbad⟩
    · have hrep : Rep (mkS l) n.toNat (bitsTo l n.toNat) := (show UnOk l (n.toNat : Int) by rw [Int.toNat_of_nonneg hok.1]; exact hok).rep
      obtain ⟨N, hN⟩ : ∃ N, n.toNat = N := ⟨_, rfl⟩
      rw [hN] at he hrep
      subst he
      have HN : Hid (n.toNat = N) := hN
      clear hN
      have bY := Box.new w6 (mkS l) N
      have gD := gC.alloc (.cells #[.string (mkS l), .int .i64 (N : Int)] 24)
      have hlent7 := hlent6.kept ((Fr.refl [] w6).alloc (.cells #[.string (mkS l), .int .i64 (N : Int)] 24)) (by simp)
      have hgne : ¬ g = w6.heap.size := by have := hlent6.lt; omega
      clear gC hlent6 f6
      go_wp2_with fail
      refine (runpack_any _ ad m c n l HL.out (hb.kept gD (by simp)) k3).mono ?_
      rintro e w7 ⟨hd2, f7⟩
      rcases hd2 with ⟨he2, _⟩ | ⟨_, hno2⟩
      · rw [HN.out] at he2
        subst he2
        have gE := gD.trans f7
        have bY7 := bY.kept f7 (by simp)
        have hlent8 := hlent7.kept f7 (by simp)
        have p0 := bY7.c0
        have p1 := bY7.c1
        clear gD bY hlent7 f7
        generalize w6.heap.size = BYY at bY7 p0 p1 hgne ⊢
        go_wp2_with fail
        refine (text_any _ (mkS l) N _ hrep).mono ?_
        rintro e w8 ⟨rfl, f8⟩
        have gF := gE.trans f8
        have bY8 := bY7.kept f8 (by simp)
        have hlent9 := hlent8.kept f8 (by simp)
        clear gE bY7 hlent8 f8 p0 p1
        go_wp2_with fail
        refine (kept_any _ g cap m c ad l HL.out k3 hlent9 (hb.kept gF (by simp))).mono ?_
        rintro e w9 ⟨rfl, f9⟩
        have gG := gF.trans f9
        have bY9 := bY8.kept f9 (by simp)
        have hlent10 := hlent9.kept f9 (by simp)
        clear gF bY8 hlent9 f9
        go_wp2_with fail
        refine (over_any _ g cap m l HL.out k3 hlent10).mono ?_
        rintro e w10 ⟨rfl, f10⟩
        have gH : Fr [] w w10 := gG.then f10 (fun i hi hm => by simp at hm; have := hgw.out; omega)
        have bY10 := bY9.kept f10 (by simp; exact fun e => hgne e.symm)
        have q0 := bY10.c0
        have q1 := bY10.c1
        clear gG bY9 hlent10 f10
        go_wp2_with fail
        refine (text_any _ (mkS l) N _ hrep).mono ?_
        rintro e w11 ⟨rfl, f11⟩
        go_wp2_with fail
        go_ret
        exact ⟨by simp, gH.trans f11⟩
      · exact absurd hok hno2
    · have bY : Box (w6.alloc (.cells #[.string (mkS []), .int .i64 0] 24)) w6.heap.size (mkS []) 0 := Box.new w6 (mkS []) 0
      have gD := gC.alloc (.cells #[.string (mkS []), .int .i64 0] 24)
      have hlent7 := hlent6.kept ((Fr.refl [] w6).alloc (.cells #[.string (mkS []), .int .i64 0] 24)) (by simp)
      have hgne : ¬ g = w6.heap.size := by have := hlent6.lt; omega
      clear gC hlent6 f6
      go_wp2_with fail
      refine (runpack_any _ ad m c n l HL.out (hb.kept gD (by simp)) k3).mono ?_
      rintro e w7 ⟨hd2, f7⟩
      rcases hd2 with ⟨_, hyes⟩ | ⟨rfl, _⟩
      · exact absurd hyes hbad
      · have gE := gD.trans f7
        have bY7 := bY.kept f7 (by simp)
        have hlent8 := hlent7.kept f7 (by simp)
        have p0 := bY7.c0
        have p1 : World.cell? _ _ = some (.int .i64 0) := bY7.c1
        clear gD bY hlent7 f7
        generalize w6.heap.size = BYY at bY7 p0 p1 hgne ⊢
        go_wp2_with fail
        refine (text_any _ (mkS []) 0 _ Rep.empty).mono ?_
        rw [show mkS (txt []) = mkS [] from rfl]
        rintro e w8 ⟨rfl, f8⟩
        have gF := gE.trans f8
        have bY8 := bY7.kept f8 (by simp)
        have hlent9 := hlent8.kept f8 (by simp)
        clear gE bY7 hlent8 f8 p0 p1
        go_wp2_with fail
        refine (kept_any _ g cap m c ad l HL.out k3 hlent9 (hb.kept gF (by simp))).mono ?_
        rintro e w9 ⟨rfl, f9⟩
        have gG := gF.trans f9
        have bY9 := bY8.kept f9 (by simp)
        have hlent10 := hlent9.kept f9 (by simp)
        clear gF bY8 hlent9 f9
        go_wp2_with fail
        refine (over_any _ g cap m l HL.out k3 hlent10).mono ?_
        rintro e w10 ⟨rfl, f10⟩
        have gH : Fr [] w w10 := gG.then f10 (fun i hi hm => by simp at hm; have := hgw.out; omega)
        have bY10 := bY9.kept f10 (by simp; exact fun e => hgne e.symm)
        have q0 := bY10.c0
        have q1 : World.cell? _ _ = some (.int .i64 0) := bY10.c1
        clear gG bY9 hlent10 f10
        go_wp2_with fail
        refine (text_any _ (mkS []) 0 _ Rep.empty).mono ?_
        rw [show mkS (txt []) = mkS [] from rfl]
        rintro e w11 ⟨rfl, f11⟩
        go_wp2_with fail
        go_ret
        exact ⟨by simp, gH.trans f11⟩
  · have gA := g1.alloc (.cells #[.string (mkS []), .int .i64 0] 24)
    clear g1 f0 f1
    go_wp2_with fail
    refine (lent_both _ ad m c l HL.out k3 (hb.kept gA (by simp)) HC.out).mono ?_
    rintro e w5 ⟨g, cap, rfl, hlent, hg, f5⟩
    have gB := gA.trans f5
    have hgw : Hid (w.heap.size ≤ g) := by have := gA.size; show _ ≤ _; omega
    clear gA hg f5
    go_wp2_with fail
    refine (unpack_any _ _ m cap n l HL.out hlent.bytes (Or.inr ⟨_, _, rfl⟩)).mono ?_
    rintro e w6 ⟨hd, f6⟩
    have gC := gB.trans f6
    have hlent6 := hlent.kept f6 (by simp)
    clear gB hlent
    rcases hd with ⟨he, hok⟩ | ⟨rfl, hbad⟩
    · have hrep : Rep (mkS l) n.toNat (bitsTo l n.toNat) := (show UnOk l (n.toNat : Int) by rw [Int.toNat_of_nonneg hok.1]; exact hok).rep
      obtain ⟨N, hN⟩ : ∃ N, n.toNat = N := ⟨_, rfl⟩
      rw [hN] at he hrep
      subst he
      have HN : Hid (n.toNat = N) := hN
      clear hN
      have bY := Box.new w6 (mkS l) N
      have gD := gC.alloc (.cells #[.string (mkS l), .int .i64 (N : Int)] 24)
      have hlent7 := hlent6.kept ((Fr.refl [] w6).alloc (.cells #[.string (mkS l), .int .i64 (N : Int)] 24)) (by simp)
      have hgne : ¬ g = w6.heap.size := by have := hlent6.lt; omega
      clear gC hlent6 f6
      go_wp2_with fail
      refine (runpack_any _ ad m c n l HL.out (hb.kept gD (by simp)) k3).mono ?_
      rintro e w7 ⟨hd2, f7⟩
      rcases hd2 with ⟨he2, _⟩ | ⟨_, hno2⟩
      · rw [HN.out] at he2
        subst he2
        have gE := gD.trans f7
        have bY7 := bY.kept f7 (by simp)
        have hlent8 := hlent7.kept f7 (by simp)
        have p0 := bY7.c0
        have p1 := bY7.c1
        clear gD bY hlent7 f7
        generalize w6.heap.size = BYY at bY7 p0 p1 hgne ⊢
        go_wp2_with fail
        refine (text_any _ (mkS l) N _ hrep).mono ?_
        rintro e w8 ⟨rfl, f8⟩
        have gF := gE.trans f8
        have bY8 := bY7.kept f8 (by simp)
        have hlent9 := hlent8.kept f8 (by simp)
        clear gE bY7 hlent8 f8 p0 p1
        go_wp2_with fail
        refine (kept_any _ g cap m c ad l HL.out k3 hlent9 (hb.kept gF (by simp))).mono ?_
        rintro e w9 ⟨rfl, f9⟩
        have gG := gF.trans f9
        have bY9 := bY8.kept f9 (by simp)
        have hlent10 := hlent9.kept f9 (by simp)
        clear gF bY8 hlent9 f9
        go_wp2_with fail
        refine (over_any _ g cap m l HL.out k3 hlent10).mono ?_
        rintro e w10 ⟨rfl, f10⟩
        have gH : Fr [] w w10 := gG.then f10 (fun i hi hm => by simp at hm; have := hgw.out; omega)
        have bY10 := bY9.kept f10 (by simp; exact fun e => hgne e.symm)
        have q0 := bY10.c0
        have q1 := bY10.c1
        clear gG bY9 hlent10 f10
        go_wp2_with fail
        refine (text_any _ (mkS l) N _ hrep).mono ?_
        rintro e w11 ⟨rfl, f11⟩
        go_wp2_with fail
        go_ret
        exact ⟨by simp, gH.trans f11⟩
      · exact absurd hok hno2
    · have bY : Box (w6.alloc (.cells #[.string (mkS []), .int .i64 0] 24)) w6.heap.size (mkS []) 0 := Box.new w6 (mkS []) 0
      have gD := gC.alloc (.cells #[.string (mkS []), .int .i64 0] 24)
      have hlent7 := hlent6.kept ((Fr.refl [] w6).alloc (.cells #[.string (mkS []), .int .i64 0] 24)) (by simp)
      have hgne : ¬ g = w6.heap.size := by have := hlent6.lt; omega
      clear gC hlent6 f6
      go_wp2_with fail
      refine (runpack_any _ ad m c n l HL.out (hb.kept gD (by simp)) k3).mono ?_
      rintro e w7 ⟨hd2, f7⟩
      rcases hd2 with ⟨_, hyes⟩ | ⟨rfl, _⟩
      · exact absurd hyes hbad
      · have gE := gD.trans f7
        have bY7 := bY.kept f7 (by simp)
        have hlent8 := hlent7.kept f7 (by simp)
        have p0 := bY7.c0
        have p1 : World.cell? _ _ = some (.int .i64 0) := bY7.c1
        clear gD bY hlent7 f7
        generalize w6.heap.size = BYY at bY7 p0 p1 hgne ⊢
        go_wp2_with fail
        refine (text_any _ (mkS []) 0 _ Rep.empty).mono ?_
        rw [show mkS (txt []) = mkS [] from rfl]
        rintro e w8 ⟨rfl, f8⟩
        have gF := gE.trans f8
        have bY8 := bY7.kept f8 (by simp)
        have hlent9 := hlent8.kept f8 (by simp)
        clear gE bY7 hlent8 f8 p0 p1
        go_wp2_with fail
        refine (kept_any _ g cap m c ad l HL.out k3 hlent9 (hb.kept gF (by simp))).mono ?_
        rintro e w9 ⟨rfl, f9⟩
        have gG := gF.trans f9
        have bY9 := bY8.kept f9 (by simp)
        have hlent10 := hlent9.kept f9 (by simp)
        clear gF bY8 hlent9 f9
        go_wp2_with fail
        refine (over_any _ g cap m l HL.out k3 hlent10).mono ?_
        rintro e w10 ⟨rfl, f10⟩
        have gH : Fr [] w w10 := gG.then f10 (fun i hi hm => by simp at hm; have := hgw.out; omega)
        have bY10 := bY9.kept f10 (by simp; exact fun e => hgne e.symm)
        have q0 := bY10.c0
        have q1 : World.cell? _ _ = some (.int .i64 0) := bY10.c1
        clear gG bY9 hlent10 f10
        go_wp2_with fail
        refine (text_any _ (mkS []) 0 _ Rep.empty).mono ?_
        rw [show mkS (txt []) = mkS [] from rfl]
        rintro e w11 ⟨rfl, f11⟩
        go_wp2_with fail
        go_ret
        exact ⟨by simp, gH.trans f11⟩

theorem pack_law (w : World) (a : ByteArray) (ha : a.size < 140737488355328) (ad : Option Addr) (m c : Nat) (l : List UInt8) (hl : l.length = m) (hm : m < 140737488355328) (hb : BytesAt w ad l) (hc : ad = none → c = 0) (n : Int) (_hn : (Lit.int .i64 n).wf = true) :
    Calls Try.prog 4 #[.string a, .slice ad m c, .int .i64 n] w fun e w' => e = .returned (.bool true) ∧ Fr [] w w' := by
  by_cases h : 5000 < a.size + m
  · exact pack_big w a ad m c n ha hm h
  · exact pack_small w a ad m c n l hl hb hc (by omega)

end Go.Proofs.Ytdkleigkkndecaa

/-
  Labels: After.
-/
import Derived.Test.YtddcilmeignlmaaGreatDoorBetw
import Derived.Deep.Cut
namespace Go.Proofs.YtddcilmeignlmaaGreatDoor
open Go.RowKit Go.Maps Go.Lib

set_option maxHeartbeats 1000000 in
set_option maxRecDepth 100000 in
theorem after_none (w : World) (ad : Option Addr) (m c : Nat) (l : List UInt8) (hn : ∀ ss, ¬ Lab l ss) (hl : l.length = m) (hb : BytesAt w ad l) (hp : Plain ad) (hm : m < 9223372036854775808) :
    Calls Tryz.prog 15 #[.slice ad m c] w fun e w' => e = .returned (.slice none 0 0) ∧ Fr [] w w' := by
  have hr := read_no w ad m c l hn hl hb hp hm
  clear hl hn
  go_enter Tryz.func15, Tryz.ntmps15
  go_wp2_with (go_at_call 29; refine hr.mono ?_; rintro e w1 ⟨rfl, f1⟩)
  go_ret
  exact ⟨rfl, f1.alloc _⟩
set_option maxHeartbeats 1000000 in
set_option maxRecDepth 100000 in
theorem after_root (w : World) (ad : Option Addr) (m c : Nat) (l : List UInt8) (L : Lab l []) (hl : l.length = m) (hb : BytesAt w ad l) (hp : Plain ad) :
    Calls Tryz.prog 15 #[.slice ad m c] w fun e w' => e = .returned (.slice none 0 0) ∧ Fr [] w w' := by
  have hr := read_yes w ad m c l [] L hl hb hp
  clear hl
  go_enter Tryz.func15, Tryz.ntmps15
  go_wp2_with (go_at_call 29; refine hr.mono ?_; rintro e w1 ⟨u2, u3, rfl, _, _, f1⟩)
  go_ret
  exact ⟨rfl, f1.alloc _⟩

theorem Fr.put2 {a w : World} (h : Fr [] a w) {b : Nat} (hb : a.heap.size ≤ b) (u v : Value) : Fr [] a ((w.setCell ⟨b, 0, none⟩ u).setCell ⟨b, 1, none⟩ v) :=
  (h.setCell ⟨b, 0, none⟩ u (fun hh => absurd hh (by simp; omega))).setCell ⟨b, 1, none⟩ v (fun hh => absurd hh (by simp; omega))
theorem Box.put {w : World} {b n : Nat} {s : ByteArray} (h : Box w b s n) (t : ByteArray) (m : Nat) : Box ((w.setCell ⟨b, 0, none⟩ (.string t)).setCell ⟨b, 1, none⟩ (.int .i64 (m : Int))) b t m := by
  have h1 := heap_setCell_same w b 0 _ _ (.string t) h
  have h2 := heap_setCell_same _ b 1 _ _ (.int .i64 (m : Int)) h1
  unfold Box
  rw [h2]
  rfl
theorem Box.fz {w : World} {b n : Nat} {s : ByteArray} (h : Box w b s n) (j : Nat) : w.frozen? ⟨b, j, none⟩ = false := frozen_of_row w b j _ _ h
theorem allocd {W0 cur w5 : World} (gg : Fr [] W0 cur) (f5 : Fr [] (cur.alloc (.cells #[.string { data := #[] }, .int .i64 0] 43)) w5) : Box w5 cur.heap.size (mkS []) 0 ∧ Fr [] W0 w5 ∧ W0.heap.size ≤ cur.heap.size :=
  ⟨(Box.zero cur).kept f5 (by simp), (gg.alloc _).trans f5, gg.size⟩
theorem allocdD {W0 cur w5 : World} (gg : Fr [] W0 cur.drew) (f5 : Fr [] (cur.alloc (.cells #[.string { data := #[] }, .int .i64 0] 43)).drew w5) : Box w5 cur.heap.size (mkS []) 0 ∧ Fr [] W0 w5 ∧ W0.heap.size ≤ cur.heap.size := allocd (cur := cur.drew) gg f5

/-- The end of a label's descendants: its row with a 1 in the place of the last bit. -/
def endR (ss : List (List Bool)) : List Bool := (enc ss).dropLast ++ [true]

set_option maxHeartbeats 600000 in
set_option maxRecDepth 100000 in
theorem after_yes (w : World) (ad : Option Addr) (m c : Nat) (l : List UInt8) (ss : List (List Bool)) (L : Lab l ss) (hl : l.length = m) (hb : BytesAt w ad l) (hp : Plain ad) (hne : ss ≠ []) :
    Calls Tryz.prog 15 #[.slice ad m c] w fun e w' => ∃ v l', e = .returned v ∧ Rep (mkS l') (endR ss).length (endR ss) ∧ Out w w' v l' ∧ Fr [] w w' := by
  have hr := read_yes w ad m c l ss L hl hb hp
  have h0 : ((ss.length : Int) == 0) = false := by
    have := List.length_pos_iff.2 hne
    simp
    exact hne
  have hmo := L.most
  obtain ⟨M, hM⟩ : ∃ M, (enc ss).length = M := ⟨_, rfl⟩
  obtain ⟨N, hN⟩ : ∃ N, M = N + 1 := by
    have : (enc ss).length ≠ 0 := by
      intro h
      have := enc_many ss
      have := List.length_pos_iff.2 hne
      omega
    exact ⟨(enc ss).length - 1, by omega⟩
  have HR : Hid (Rep (mkS l) M (enc ss)) := (by rw [← hM]; exact L.rep : Rep (mkS l) M (enc ss))
  have HE : Hid (endR ss = (enc ss).take N ++ [true]) := (by unfold endR; rw [List.dropLast_eq_take, hM, hN]; rfl : endR ss = (enc ss).take N ++ [true])
  rw [hM] at hr
  have HN : Hid (M = N + 1) := hN
  have hN1 : (M : Int) - 1 = (N : Int) := by omega
  have hN2 : N ≤ 1024 := by omega
  have hN3 : (N : Int) ≤ 1024 := by omega
  have hN4 : (0 : Int) ≤ (N : Int) := by omega
  have hM2 : (M : Int) ≤ 1025 := by omega
  have hwN : IntKind.i64.wrap ((M : Int) - 1) = (N : Int) := by rw [hN1]; exact wrapI (by omega) (by omega)
  have hwN2 : IntKind.i64.wrap (N : Int) = (N : Int) := wrapI (by omega) (by omega)
  clear hl hne hN hmo hM
  go_enter Tryz.func15, Tryz.ntmps15
  go_wp2_with fail
  refine hr.mono ?_
  rintro e w1 ⟨u2, u3, rfl, h2, _, f1⟩
  have pB : PBox (w1.alloc (.cells #[.string (mkS l), .int .i64 (M : Int), .string u2, .int .i64 ((enc ss.dropLast).length : Int), .string u3, .int .i64 ((lastS ss).length : Int), .int .i64 (ss.length : Int)] 45)) w1.heap.size (mkS l) M u2 (enc ss.dropLast).length u3 (lastS ss).length (ss.length : Int) := heap_alloc_new w1 _
  have f1a := f1.alloc (.cells #[.string (mkS l), .int .i64 (M : Int), .string u2, .int .i64 ((enc ss.dropLast).length : Int), .string u3, .int .i64 ((lastS ss).length : Int), .int .i64 (ss.length : Int)] 45)
  clear hr
  go_wp2_with fail
  generalize w1.alloc (.cells #[.string (mkS l), .int .i64 (M : Int), .string u2, .int .i64 ((enc ss.dropLast).length : Int), .string u3, .int .i64 ((lastS ss).length : Int), .int .i64 (ss.length : Int)] 45) = w4 at pB f1a ⊢
  generalize w1.heap.size = B at pB ⊢
  go_cut [5, 6] from 21 (fun s5 s6 wx => ∃ b u, s5 = .pointer (some ⟨b, 0, none⟩) ∧ s6 = .bool true ∧ Box wx b u N ∧ Rep u N ((enc ss).take N) ∧ Fr [] w4 wx)
  case first => as_aux_lemma =>
    obtain ⟨W0, hW0⟩ : ∃ W0, W0 = w4 := ⟨_, rfl⟩
    have gg : Fr [] W0 w4.drew := (by rw [hW0]; exact (Fr.refl _ _).drew)
    have SK : Hid (∀ w', Fr [] W0 w' → w'.cell? ⟨B, 0, none⟩ = some (.string (mkS l)) ∧ w'.cell? ⟨B, 1, none⟩ = some (.int .i64 (M : Int))) := (by rw [hW0]; exact fun w' g => ⟨(pB.kept g (by simp)).c0, (pB.kept g (by simp)).c1⟩)
    have HW0 : Hid (W0 = w4) := hW0
    clear hW0
    go_region_held3 (fun w' => w'.cell? ⟨B, 0, none⟩ = some (.string (mkS l)) ∧ w'.cell? ⟨B, 1, none⟩ = some (.int .i64 (M : Int))) (first | exact SK.out _ gg | exact SK.out _ (gg.alloc _) | exact SK.out _ (gg.put2 zl.out _ _))
      ((first
        | (go_at_call 34; refine (len_any _ (mkS l) M).mono ?_; rintro e w5 ⟨rfl, f5⟩; (first | (replace gg := gg.trans f5; (try replace zb := zb.kept f5 (by simp))) | (obtain ⟨zb, gg', zl'⟩ := allocdD gg f5; have zl : Hid (W0.heap.size ≤ _) := zl'; replace gg := gg') | (obtain ⟨zb, gg', zl'⟩ := allocd gg f5; have zl : Hid (W0.heap.size ≤ _) := zl'; replace gg := gg')); (try (have z0 := zb.c0; have z1 : World.cell? _ _ = some (.int .i64 0) := zb.c1; have z2 := zb.fz 0; have z3 := zb.fz 1)))
        | (go_at_call 33; refine (cut_in _ (mkS l) M 0 N N (enc ss) HR.out (by omega) (by have := HN.out; omega)).mono ?_; rintro e w5 ⟨u, rfl, hu, f5⟩; rw [List.drop_zero] at hu; (first | (replace gg := gg.trans f5; (try replace zb := zb.kept f5 (by simp))) | (obtain ⟨zb, gg', zl'⟩ := allocdD gg f5; have zl : Hid (W0.heap.size ≤ _) := zl'; replace gg := gg') | (obtain ⟨zb, gg', zl'⟩ := allocd gg f5; have zl : Hid (W0.heap.size ≤ _) := zl'; replace gg := gg')); (try (have z0 := zb.c0; have z1 : World.cell? _ _ = some (.int .i64 0) := zb.c1; have z2 := zb.fz 0; have z3 := zb.fz 1)))))
    all_goals go_wp2
    all_goals go_meet
    all_goals (have HW := HW0.out; subst HW)
    all_goals (first | exact ⟨_, u, rfl, rfl, Box.new _ u N, hu, gg.alloc _⟩ | exact ⟨_, u, rfl, rfl, zb.put u N, hu, gg.put2 zl.out _ _⟩)
  obtain ⟨b5, u, rfl, rfl, bU, hu, f6⟩ := hcut
  have g6 := f1a.trans f6
  clear f6 pB
  go_wp2_with fail
  refine (of_txt _ [true] (by simp)).mono ?_
  rintro e w7 ⟨o, rfl, ho, f7⟩
  obtain ⟨Q, hQ⟩ : ∃ Q, [true].length = Q := ⟨_, rfl⟩
  have HQ : Hid (Q = 1) := hQ.symm
  rw [hQ] at ho ⊢
  clear hQ
  have hQ1 : N + Q ≤ 1048576 := by have := HQ.out; omega
  have bO : Box (w7.alloc (.cells #[.string o, .int .i64 (Q : Int)] 43)) w7.heap.size o Q := Box.new w7 o Q
  have bU7 := bU.kept f7 (by simp)
  have fO : Fr [] w7 (w7.alloc (.cells #[.string o, .int .i64 (Q : Int)] 43)) := (Fr.refl _ _).alloc _
  have bU8 := bU7.kept fO (by simp)
  have g8 := (g6.trans f7).trans fO
  have q0 := bU7.c0
  have q1 := bU7.c1
  have ql := bU7.lt
  clear bU bU7 fO f7 g6
  have ha := and_any (w7.alloc (.cells #[.string o, .int .i64 (Q : Int)] 43)) u o N Q (N + Q) ((enc ss).take N) [true] hu ho rfl hQ1
  go_wp2_with fail
  refine ha.mono ?_
  rintro e w9 ⟨u9, rfl, hu9, f9⟩
  have g9 := g8.trans f9
  have hsz9 : u9.size ≤ 16777216 := by rw [hu9.size]; omega
  clear ha
  go_wp2_with fail
  refine (pack_out _ u9 _ hsz9).mono ?_
  rintro e wa ⟨ada, capa, rfl, oa, fa⟩
  go_wp2_with fail
  go_ret
  refine ⟨_, bl u9, rfl, ?_, oa.from g9, g9.trans fa⟩
  rw [HE.out, mkS_bl]
  have hlen : ((enc ss).take N ++ [true]).length = N + Q := hu9.len
  rw [hlen]
  exact hu9

end Go.Proofs.YtddcilmeignlmaaGreatDoor

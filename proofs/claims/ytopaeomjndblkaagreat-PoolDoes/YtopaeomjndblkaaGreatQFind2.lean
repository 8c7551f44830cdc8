/-
  The records that bytes begin with: the program's find, where there is one.
-/
import Derived.Test.YtopaeomjndblkaaGreatQRowL
namespace Go.Proofs.YtopaeomjndblkaaGreat
open Go.RowKit Go.Maps

theorem lbox_type {w : World} {p : Nat} {x : Lg} (h : LBox w p x) (e : TypeId) (he : e ≠ 223) : ∀ g ∈ [p], ∀ cur t, w.heap[g]? = some (.cells cur t) → t ≠ e := by
  intro g hg cur t hc
  simp at hg
  subst hg
  rw [h] at hc
  cases hc
  exact fun h => he h.symm

set_option maxHeartbeats 1000000 in
set_option maxRecDepth 100000 in
theorem find_one (w : World) (p : Nat) (x : Lg) (hx : LBox w p x) (h0 : 1 ≤ x.oldest) (h1 : x.oldest ≤ 2305843009213693952) (e9 : x.ls = .slice none 0 0) (k0 : 4 ≤ x.count) (k1 : x.count ≤ 65536)
    (g n c : Nat) (l : List UInt8) (hl : l.length = n) (hn0 : 1 ≤ n) (hn : n ≤ 100000) (hc : n ≤ c) (hb : BytesAt w (some ⟨g, 0, none⟩) l) (hgp : g ≠ p) (r : Rec) (hd : decR l = some (r, n)) (hr1 : r.lsn = x.oldest) (hr2 : 1 ≤ r.turn) (hr3 : r.turn < x.turn) (hm : (n : Int) ≤ 408 * (x.count - 1)) :
    Calls Tryz.prog 175 #[.pointer (some ⟨p, 0, none⟩), .slice (some ⟨g, 0, none⟩) n c] w fun e w' => e = .returned (.tuple #[]) ∧ ∃ gb gl cl, LBox w' p { x with by' := .slice (some ⟨gb, 0, none⟩) n n, fin := x.oldest + n, safe := x.oldest + n, ls := .slice (some ⟨gl, 0, none⟩) 1 cl } ∧ BsAt w' (some ⟨gb, 0, none⟩) n n l ∧ LsAt w' (some ⟨gl, 0, none⟩) 1 cl [x.oldest] ∧ Fr [p] w w' := by
  have HL := hidI hl
  clear hl
  obtain ⟨dv, first, count, turn, oldest, safe, fin, by_, from_, ls⟩ := x
  dsimp only at h0 h1 e9 k0 k1 hr1 hr3 hm ⊢
  subst e9
  have c4 : w.cell? ⟨p, 4, none⟩ = some (.int .i64 oldest) := hx.c4
  have hw := wrapI oldest (by omega) (by omega)
  have hwn := wrapI (oldest + (n : Int)) (by omega) (by omega)
  have hwnn := wrapI (n : Int) (by omega) (by omega)
  have hi1 : (n : Int) ≤ c := by omega
  have hc0 : ¬ c = 0 := by omega
  go_enter Tryz.func175, Tryz.ntmps175
  go_wp2
  go_loopw [4, 5] (fun s4 s5 wr => (s4 = .int .i64 0 ∧ s5 = .int .i64 1 ∧ wr = w) ∨ ∃ gl cl, s4 = .int .i64 n ∧ s5 = .int .i64 r.turn ∧ LBox wr p ⟨dv, first, count, turn, oldest, safe, fin, by_, from_, .slice (some ⟨gl, 0, none⟩) 1 cl⟩ ∧ LsAt wr (some ⟨gl, 0, none⟩) 1 cl [oldest] ∧ Fr [p] w wr) (fun s4 _ _ => 1 - (intOf s4).toNat)
  case atStart => exact Or.inl ⟨rfl, rfl, rfl⟩
  case round =>
    rcases hrel with ⟨rfl, rfl, hwr⟩ | ⟨gl, cl, rfl, rfl, L1, ls1, f1⟩
    · subst hwr
      go_wp2_with fail
      refine (get_any _ (some ⟨g, 0, none⟩) n c l HL.out hc hn hb).mono ?_
      rintro e w2 hG
      rcases hG with ⟨hd2, -, -⟩ | ⟨r2, n2, s, hd2, rfl, ns, f2⟩
      · rw [hd] at hd2; cases hd2
      · rw [hd] at hd2
        cases hd2
        have RB : RBox (w2.alloc (.cells (recV r s) 192)) w2.heap.size r s := heap_alloc_new w2 _
        have f3 : Fr [] wr (w2.alloc (.cells (recV r s) 192)) := f2.alloc _
        unfold RBox recV at RB
        unfold recV at f3
        unfold recV
        have HR1 := hidI hr1
        clear hr1
        go_wp2_with fail
        generalize w2.alloc (.cells #[.int .i64 r.lsn, .int .i64 r.turn, .int .u8 (r.kind : Int), .int .i64 r.tx, .int .i64 r.prev, .int .i64 r.next, .int .i64 r.block, .int .i64 r.off, .slice s.a1 r.old.length s.c1, .slice s.a2 r.new.length s.c2] 192) = w3 at RB f3 ⊢
        generalize (Value.tuple #[Value.agg #[.int .i64 r.lsn, .int .i64 r.turn, .int .u8 (r.kind : Int), .int .i64 r.tx, .int .i64 r.prev, .int .i64 r.next, .int .i64 r.block, .int .i64 r.off, .slice s.a1 r.old.length s.c1, .slice s.a2 r.new.length s.c2], .int .i64 (n : Int), .int .i64 0]) = T16
        generalize (Value.agg #[.int .i64 r.lsn, .int .i64 r.turn, .int .u8 (r.kind : Int), .int .i64 r.tx, .int .i64 r.prev, .int .i64 r.next, .int .i64 r.block, .int .i64 r.off, .slice s.a1 r.old.length s.c1, .slice s.a2 r.new.length s.c2]) = T21
        have L3 := hx.kept f3 (by simp)
        have RB' : RBox w3 w2.heap.size r s := RB
        generalize w2.heap.size = Z at RB' ⊢
        have x0 := RB'.c0
        have x1 := RB'.c1
        have d3 : w3.cell? ⟨p, 3, none⟩ = some (.int .i64 turn) := L3.c3
        have t1 : (r.lsn != oldest) = false := by rw [bne_eq_false_iff_eq]; exact HR1.out
        have t2 : ¬ r.turn < 1 := by omega
        have t3 : ¬ turn ≤ r.turn := by omega
        have t4 : ¬ 408 * (count - 1) < (n : Int) := by omega
        have LD : Hid (∀ n, (w3.drewN n).cell? ⟨p, 2, none⟩ = some (.int .i64 count)) := hidI (fun n => (L3.kept ((Fr.refl [] w3).drewN n) (by simp)).c2)
        clear RB
        go_quiet ((go_at_call 191; exact Calls.quiet_of_same (most_any _ p count (LD.out _) k0 k1)))
        have L4 := L3.kept ((Fr.refl [] w3).drewN nq) (by simp)
        have R4 := RB'.kept ((Fr.refl [] w3).drewN nq) (by simp)
        have f4 := f3.drewN nq
        clear L3 RB' f3 x0 x1 d3 LD t1 t2 t3 t4
        generalize w3.drewN nq = w4 at L4 R4 f4 ⊢
        have d9 : w4.cell? ⟨p, 9, none⟩ = some (.slice none 0 0) := L4.c9
        have HZp : Hid (Z ≠ p) := hidI (fun e => by subst e; have h1 : w4.heap[Z]? = _ := L4; rw [R4] at h1; cases h1)
        go_wp2_with (refine wp_appL rfl _ _ rfl none 0 0 [] w4.heap.size oldest rfl rfl (LsAt.nil _) (heap_alloc_new w4 _) (by omega) ?_; intro gl cl w5 l5 f5 _; have L5 := L4.kept (((Fr.refl [] w4).alloc _).trans f5) (by simp); have R5 := R4.kept (((Fr.refl [] w4).alloc _).trans f5) (by simp); have e9 : w5.cell? ⟨p, 9, none⟩ = some (.slice none 0 0) := L5.c9; have z9 := L5.fz 9; have y1 := (R5.kept (fr_set w5 p 9 (.slice (some ⟨gl, 0, none⟩) (0 + 1) cl)) (by have h := HZp.out; simp; exact h)).c1)
        have L6 := L5.s9 (.slice (some ⟨gl, 0, none⟩) 1 cl)
        have l6 : LsAt _ (some ⟨gl, 0, none⟩) 1 cl [oldest] := own0_kept l5 (fr_set w5 p 9 (.slice (some ⟨gl, 0, none⟩) 1 cl)) (lbox_type L5 2 (by decide))
        refine ⟨Or.inr ⟨gl, cl, by go_num, rfl, L6, l6, ?_⟩, by simp [intOf]; omega⟩
        exact ((f4.mono (M := [p]) (fun _ _ e => nomatch e)).trans ((((Fr.refl [] w4).alloc _).trans f5).mono (M := [p]) (by simp))).trans (fr_set w5 p 9 _)
    · have c4 : wr.cell? ⟨p, 4, none⟩ = some (.int .i64 oldest) := L1.c4
      obtain ⟨dp, hdp⟩ : ∃ dp : Option Addr, (if c = n then some (⟨g, 0, none⟩ : Addr) else some ⟨g, n, none⟩) = dp := ⟨_, rfl⟩
      have hbw := hb.kept f1 (fun b' off e => by cases e; simpa using hgp)
      have hnn : (n : Int) ≤ n := by omega
      go_wp2_with fail
      refine (get_any _ dp 0 (c - n) [] rfl (by omega) (by omega) (BytesAt.nil _ _)).mono ?_
      rintro e w2 hG
      rcases hG with ⟨-, rfl, f2⟩ | ⟨r2, n2, s, hd2, -⟩
      · unfold recV zeroR zeroS
        go_wp2_with fail
        have f3 := f2.alloc (.cells #[.int .i64 0, .int .i64 0, .int .u8 ((0 : Nat) : Int), .int .i64 0, .int .i64 0, .int .i64 0, .int .i64 0, .int .i64 0, .slice none ([] : List UInt8).length 0, .slice none ([] : List UInt8).length 0] 192)
        generalize hw3 : w2.alloc _ = w3 at f3 ⊢
        clear hw3
        go_quiet (fail)
        have f4 := f3.drewN nq
        generalize w3.drewN nq = w4 at f4 ⊢
        have L4 := L1.kept f4 (by simp)
        have l4 := own0_kept (L := []) ls1 f4 (fun g' hg' => nomatch hg')
        have b4 := hbw.kept f4 (by simp)
        go_wp2_with fail
        refine (copied_any w4 (some ⟨g, 0, none⟩) n c l HL.out b4 (by omega)).mono ?_
        rintro e w5 ⟨ad, rfl, cp, f5⟩
        have had : ∃ gb, ad = some ⟨gb, 0, none⟩ := by
          cases ad with
          | none => have h := cp.nil rfl; rw [HL.out] at h; omega
          | some a => obtain ⟨gb, rfl, _⟩ := cp.at' a rfl; exact ⟨gb, rfl⟩
        obtain ⟨gb, rfl⟩ := had
        have L5 := L4.kept f5 (by simp)
        have l5 := own0_kept (L := []) l4 f5 (fun g' hg' => nomatch hg')
        have bs5 := cp.bs HL.out (by omega)
        have F5 := f1.trans ((f4.trans f5).mono (M := [p]) (fun _ _ e => nomatch e))
        have k7 := L5.c7
        have z7 := L5.fz 7
        have L6 := L5.s7 (.slice (some ⟨gb, 0, none⟩) n n)
        have k4 : World.cell? _ ⟨p, 4, none⟩ = some (.int .i64 oldest) := L6.c4
        have k6 := L6.c6
        have z6 := L6.fz 6
        have L7 := L6.s6 (oldest + (n : Int))
        have k66 : World.cell? _ ⟨p, 6, none⟩ = some (.int .i64 (oldest + (n : Int))) := L7.c6
        have k5 := L7.c5
        have z5 := L7.fz 5
        have L8 := L7.s5 (oldest + (n : Int))
        have T5 := lbox_type L5
        have T6 := lbox_type L6
        have T7 := lbox_type L7
        have HT := hidI (And.intro T5 (And.intro T6 T7))
        clear T5 T6 T7
        go_wp2_with fail
        obtain ⟨T5, T6, T7⟩ := HT.out
        refine bodyPost_end (results_none Tryz.results175 _ _ _) rfl ⟨rfl, gb, gl, cl, L8, ?_, ?_, ?_⟩
        · exact own0_kept (own0_kept (own0_kept bs5 (fr_set _ p 7 _) (T5 5 (by decide))) (fr_set _ p 6 _) (T6 5 (by decide))) (fr_set _ p 5 _) (T7 5 (by decide))
        · exact own0_kept (own0_kept (own0_kept l5 (fr_set _ p 7 _) (T5 2 (by decide))) (fr_set _ p 6 _) (T6 2 (by decide))) (fr_set _ p 5 _) (T7 2 (by decide))
        · exact ((F5.trans (fr_set _ p 7 _)).trans (fr_set _ p 6 _)).trans (fr_set _ p 5 _)
      · rw [decR_nil] at hd2; cases hd2

end Go.Proofs.YtopaeomjndblkaaGreat

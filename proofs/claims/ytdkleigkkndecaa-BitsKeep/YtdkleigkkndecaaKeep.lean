/-
  BitsKeep, walked.
-/
import Derived.Test.YtdkleigkkndecaaKeepMath
namespace Go.Proofs.Ytdkleigkkndecaa
open Go.RowKit Go.Lib

set_option maxHeartbeats 8000000 in
set_option maxRecDepth 100000 in
theorem keep_law (w : World) (a1 a2 a3 : Option Addr) (n1 n2 n3 c1 c2 c3 : Nat) (l1 l2 l3 : List UInt8) (h1 : l1.length = n1) (h2 : l2.length = n2) (h3 : l3.length = n3) (b1 : BytesAt w a1 l1) (b2 : BytesAt w a2 l2) (b3 : BytesAt w a3 l3)
    (m1 : n1 < 9223372036854775808) (m2 : n2 < 9223372036854775808) (m3 : n3 < 9223372036854775808) :
    Calls Try.prog 7 #[.slice a1 n1 c1, .slice a2 n2 c2, .slice a3 n3 c3] w fun e w' => e = .returned (.bool true) ∧ Fr [] w w' := by
  obtain ⟨x, hx⟩ : ∃ x, min 200 n1 = x := ⟨_, rfl⟩
  obtain ⟨y, hy⟩ : ∃ y, min 200 n2 = y := ⟨_, rfl⟩
  obtain ⟨z, hz⟩ : ∃ z, min 200 n3 = z := ⟨_, rfl⟩
  have X : Hid (l1.length = n1 ∧ min 200 n1 = x) := ⟨h1, hx⟩
  have Y : Hid (l2.length = n2 ∧ min 200 n2 = y) := ⟨h2, hy⟩
  have Z : Hid (l3.length = n3 ∧ min 200 n3 = z) := ⟨h3, hz⟩
  have hx2 : x ≤ 200 := by omega
  have hy2 : y ≤ 200 := by omega
  have hz2 : z ≤ 200 := by omega
  clear h1 h2 h3 hx hy hz
  go_enter Try.func7, Try.ntmps7
  go_wp2_with fail
  refine (awake_any _).mono ?_
  rintro e w0 ⟨rfl, f0⟩
  go_wp2_with fail
  refine (row_any _ a1 n1 c1 x l1 X.out.1 X.out.2 (b1.kept f0 (by simp)) m1).mono ?_
  rintro e w1 ⟨s, rfl, hs, f1⟩
  have g1 := f0.trans f1
  go_wp2_with fail
  refine (row_any _ a2 n2 c2 y l2 Y.out.1 Y.out.2 (b2.kept g1 (by simp)) m2).mono ?_
  rintro e w2 ⟨t, rfl, ht, f2⟩
  have g2 := g1.trans f2
  go_wp2_with fail
  refine (row_any _ a3 n3 c3 z l3 Z.out.1 Z.out.2 (b3.kept g2 (by simp)) m3).mono ?_
  rintro e w3 ⟨u, rfl, hu, f3⟩
  have g3 := g2.trans f3
  clear f0 f1 g1 f2 g2 f3 b1 b2 b3 X Y Z m1 m2 m3
  generalize rowOf l1 = r at hs
  generalize rowOf l2 = q at ht
  generalize rowOf l3 = p at hu
  go_wp2_with fail
  obtain ⟨bx, by', bz, f4⟩ := boxes3 w3 s t u x y z
  have g4 := g3.trans f4
  clear f4 g3
  generalize ((w3.alloc (.cells #[.string s, .int .i64 (x : Int)] 24)).alloc (.cells #[.string t, .int .i64 (y : Int)] 24)).alloc (.cells #[.string u, .int .i64 (z : Int)] 24) = w4 at bx by' bz g4 ⊢
  generalize w3.heap.size = B at bx by' bz ⊢
  generalize B + 1 + 1 = BZ at bz ⊢
  generalize B + 1 = BY at by' ⊢
  obtain ⟨K, hK⟩ : ∃ K, (bl s).length = K := ⟨_, rfl⟩
  have HK : Hid ((bl s).length = K) := hK
  have hsz : s.size ≤ 16777216 := by rw [hs.size]; omega
  clear hK
  go_cut [10, 11] from 19 (fun s10 s11 wx => ∃ b, s10 = .pointer (some ⟨b, 0, none⟩) ∧ s11 = .bool true ∧ Box wx b s x ∧ Fr [] w4 wx)
  case first => as_aux_lemma =>
    obtain ⟨W0, hW0⟩ : ∃ W0, W0 = w4 := ⟨_, rfl⟩
    have gg : Fr [] W0 w4.drew := (by rw [hW0]; exact (Fr.refl _ _).drew)
    have SK : Hid (∀ w', Fr [] W0 w' → (w'.cell? ⟨B, 0, none⟩ = some (.string s) ∧ w'.cell? ⟨B, 1, none⟩ = some (.int .i64 (x : Int))) ∧ (w'.cell? ⟨BY, 0, none⟩ = some (.string t) ∧ w'.cell? ⟨BY, 1, none⟩ = some (.int .i64 (y : Int))) ∧ (w'.cell? ⟨BZ, 0, none⟩ = some (.string u) ∧ w'.cell? ⟨BZ, 1, none⟩ = some (.int .i64 (z : Int)))) := (by rw [hW0]; exact fun w' g => ⟨(bx.kept g (by simp)).two, (by'.kept g (by simp)).two, (bz.kept g (by simp)).two⟩)
    have HW0 : Hid (W0 = w4) := hW0
    clear hW0
    go_region_held3 (fun w' => (w'.cell? ⟨B, 0, none⟩ = some (.string s) ∧ w'.cell? ⟨B, 1, none⟩ = some (.int .i64 (x : Int))) ∧ (w'.cell? ⟨BY, 0, none⟩ = some (.string t) ∧ w'.cell? ⟨BY, 1, none⟩ = some (.int .i64 (y : Int))) ∧ (w'.cell? ⟨BZ, 0, none⟩ = some (.string u) ∧ w'.cell? ⟨BZ, 1, none⟩ = some (.int .i64 (z : Int)))) (first | exact SK.out _ gg | exact SK.out _ (gg.alloc _) | exact SK.out _ (gg.put2 zl.out _ _))
      ((first | (go_at_call_of 20 s; refine (pack_any _ s x hsz).mono ?_; rintro e w5 ⟨pv, rfl, hp, f5⟩; (first | (replace gg := gg.trans f5; (try replace zb := zb.kept f5 (by simp)); (try replace hbyA := hbyA.kept f5 (by simp)); (try replace hbyB := hbyB.kept f5 (by simp))) | (obtain ⟨zb, gg', zl'⟩ := allocdD gg f5; have zl : Hid (W0.heap.size ≤ _) := zl'; replace gg := gg'; (try replace hbyA := hbyA.allocd f5); (try replace hbyB := hbyB.allocd f5)) | (obtain ⟨zb, gg', zl'⟩ := allocd gg f5; have zl : Hid (W0.heap.size ≤ _) := zl'; replace gg := gg'; (try replace hbyA := hbyA.allocd f5); (try replace hbyB := hbyB.allocd f5))); (try (have z0 := zb.c0; have z1 : World.cell? _ _ = some (.int .i64 0) := zb.c1; have z2 := zb.fz 0; have z3 := zb.fz 1)); obtain ⟨adA, capA, hv, hbyA, hlo, hpl⟩ := hp.bytes; rw [HK.out] at hv; subst hv; have plA : Hid (Plain adA) := (by rcases Nat.eq_zero_or_pos (bl s).length with hh | hh; exact hpl hh; (obtain ⟨b0, o0, e0, _⟩ := hbyA.at 0 hh); exact Or.inr ⟨b0, o0, e0⟩); clear hlo hpl hp) | (go_at_call_of 12 s; refine (len_any _ s x).mono ?_; rintro e w5 ⟨rfl, f5⟩; (first | (replace gg := gg.trans f5; (try replace zb := zb.kept f5 (by simp)); (try replace hbyA := hbyA.kept f5 (by simp)); (try replace hbyB := hbyB.kept f5 (by simp))) | (obtain ⟨zb, gg', zl'⟩ := allocdD gg f5; have zl : Hid (W0.heap.size ≤ _) := zl'; replace gg := gg'; (try replace hbyA := hbyA.allocd f5); (try replace hbyB := hbyB.allocd f5)) | (obtain ⟨zb, gg', zl'⟩ := allocd gg f5; have zl : Hid (W0.heap.size ≤ _) := zl'; replace gg := gg'; (try replace hbyA := hbyA.allocd f5); (try replace hbyB := hbyB.allocd f5))); (try (have z0 := zb.c0; have z1 : World.cell? _ _ = some (.int .i64 0) := zb.c1; have z2 := zb.fz 0; have z3 := zb.fz 1))) | (go_at_call 23; refine (unpack_back _ adA K capA x s r hs HK.out ?_ plA.out).mono ?_; (first | exact hbyA | exact hbyA.kept ((Fr.refl [] _).alloc _) (by simp)); rintro e w5 ⟨rfl, f5⟩; (first | (replace gg := gg.trans f5; (try replace zb := zb.kept f5 (by simp)); (try replace hbyA := hbyA.kept f5 (by simp)); (try replace hbyB := hbyB.kept f5 (by simp))) | (obtain ⟨zb, gg', zl'⟩ := allocdD gg f5; have zl : Hid (W0.heap.size ≤ _) := zl'; replace gg := gg'; (try replace hbyA := hbyA.allocd f5); (try replace hbyB := hbyB.allocd f5)) | (obtain ⟨zb, gg', zl'⟩ := allocd gg f5; have zl : Hid (W0.heap.size ≤ _) := zl'; replace gg := gg'; (try replace hbyA := hbyA.allocd f5); (try replace hbyB := hbyB.allocd f5))); (try (have z0 := zb.c0; have z1 : World.cell? _ _ = some (.int .i64 0) := zb.c1; have z2 := zb.fz 0; have z3 := zb.fz 1)))))
    all_goals go_wp2
    all_goals go_meet
    all_goals (have HW := HW0.out; subst HW)
    all_goals (first | exact ⟨_, rfl, rfl, Box.new _ s x, gg.alloc _⟩ | exact ⟨_, rfl, rfl, zb.put s x, gg.put2 zl.out _ _⟩)
  obtain ⟨BK, rfl, rfl, bk, f6⟩ := hcut
  replace bx := bx.kept f6 (by simp)
  replace by' := by'.kept f6 (by simp)
  replace bz := bz.kept f6 (by simp)
  replace g4 := g4.trans f6
  clear f6
  go_wp2_with fail
  go_cut [49] from 19 (fun s49 wx => s49 = .bool false ∧ Fr [] wc wx)
  case first => as_aux_lemma =>
    obtain ⟨W0, hW0⟩ : ∃ W0, W0 = wc := ⟨_, rfl⟩
    have gg : Fr [] W0 wc.drew := (by rw [hW0]; exact (Fr.refl _ _).drew)
    have SK : Hid (∀ w', Fr [] W0 w' → (w'.cell? ⟨B, 0, none⟩ = some (.string s) ∧ w'.cell? ⟨B, 1, none⟩ = some (.int .i64 (x : Int))) ∧ (w'.cell? ⟨BY, 0, none⟩ = some (.string t) ∧ w'.cell? ⟨BY, 1, none⟩ = some (.int .i64 (y : Int))) ∧ (w'.cell? ⟨BZ, 0, none⟩ = some (.string u) ∧ w'.cell? ⟨BZ, 1, none⟩ = some (.int .i64 (z : Int))) ∧ (w'.cell? ⟨BK, 0, none⟩ = some (.string s) ∧ w'.cell? ⟨BK, 1, none⟩ = some (.int .i64 (x : Int)))) := (by rw [hW0]; exact fun w' g => ⟨(bx.kept g (by simp)).two, (by'.kept g (by simp)).two, (bz.kept g (by simp)).two, (bk.kept g (by simp)).two⟩)
    have HW0 : Hid (W0 = wc) := hW0
    clear hW0
    go_region_held3 (fun w' => (w'.cell? ⟨B, 0, none⟩ = some (.string s) ∧ w'.cell? ⟨B, 1, none⟩ = some (.int .i64 (x : Int))) ∧ (w'.cell? ⟨BY, 0, none⟩ = some (.string t) ∧ w'.cell? ⟨BY, 1, none⟩ = some (.int .i64 (y : Int))) ∧ (w'.cell? ⟨BZ, 0, none⟩ = some (.string u) ∧ w'.cell? ⟨BZ, 1, none⟩ = some (.int .i64 (z : Int))) ∧ (w'.cell? ⟨BK, 0, none⟩ = some (.string s) ∧ w'.cell? ⟨BK, 1, none⟩ = some (.int .i64 (x : Int)))) (first | exact SK.out _ gg | exact SK.out _ (gg.alloc _) | exact SK.out _ (gg.put2 zl.out _ _))
      ((first | (go_at_call_of 13 s; refine (text_any _ s x r hs).mono ?_; rintro e w5 ⟨rfl, f5⟩; (first | (replace gg := gg.trans f5; (try replace zb := zb.kept f5 (by simp)); (try replace hbyA := hbyA.kept f5 (by simp)); (try replace hbyB := hbyB.kept f5 (by simp))) | (obtain ⟨zb, gg', zl'⟩ := allocdD gg f5; have zl : Hid (W0.heap.size ≤ _) := zl'; replace gg := gg'; (try replace hbyA := hbyA.allocd f5); (try replace hbyB := hbyB.allocd f5)) | (obtain ⟨zb, gg', zl'⟩ := allocd gg f5; have zl : Hid (W0.heap.size ≤ _) := zl'; replace gg := gg'; (try replace hbyA := hbyA.allocd f5); (try replace hbyB := hbyB.allocd f5))); (try (have z0 := zb.c0; have z1 : World.cell? _ _ = some (.int .i64 0) := zb.c1; have z2 := zb.fz 0; have z3 := zb.fz 1))) | (go_at_call_of 27 (#[Value.agg #[Value.string s, Value.int IntKind.i64 (x : Int)], Value.agg #[Value.string s, Value.int IntKind.i64 (x : Int)]]); refine (compare_any _ s s x x r r hs hs).mono ?_; rw [stand_self]; rintro e w5 ⟨rfl, f5⟩; (first | (replace gg := gg.trans f5; (try replace zb := zb.kept f5 (by simp)); (try replace hbyA := hbyA.kept f5 (by simp)); (try replace hbyB := hbyB.kept f5 (by simp))) | (obtain ⟨zb, gg', zl'⟩ := allocdD gg f5; have zl : Hid (W0.heap.size ≤ _) := zl'; replace gg := gg'; (try replace hbyA := hbyA.allocd f5); (try replace hbyB := hbyB.allocd f5)) | (obtain ⟨zb, gg', zl'⟩ := allocd gg f5; have zl : Hid (W0.heap.size ≤ _) := zl'; replace gg := gg'; (try replace hbyA := hbyA.allocd f5); (try replace hbyB := hbyB.allocd f5))); (try (have z0 := zb.c0; have z1 : World.cell? _ _ = some (.int .i64 0) := zb.c1; have z2 := zb.fz 0; have z3 := zb.fz 1)))))
    all_goals go_wp2
    all_goals go_meet
    all_goals (have HW := HW0.out; subst HW)
    all_goals exact ⟨rfl, gg⟩
  obtain ⟨rfl, f6⟩ := hcut
  replace bx := bx.kept f6 (by simp)
  replace by' := by'.kept f6 (by simp)
  replace bz := bz.kept f6 (by simp)
  replace g4 := g4.trans f6
  clear f6
  go_wp2_with fail
  obtain ⟨NXY, hNXY⟩ : ∃ n, x + y = n := ⟨_, rfl⟩
  obtain ⟨NYZ, hNYZ⟩ : ∃ n, y + z = n := ⟨_, rfl⟩
  obtain ⟨NXYZ, hNXYZ⟩ : ∃ n, NXY + z = n := ⟨_, rfl⟩
  have H1 : Hid (x + y = NXY ∧ NXY ≤ 1048576) := ⟨hNXY, by omega⟩
  have H2 : Hid (y + z = NYZ ∧ NYZ ≤ 1048576) := ⟨hNYZ, by omega⟩
  have H3 : Hid (NXY + z = NXYZ ∧ NXYZ ≤ 1048576) := ⟨hNXYZ, by omega⟩
  have H4 : Hid (x + NYZ = NXYZ ∧ NXYZ ≤ 1048576) := ⟨by omega, by omega⟩
  clear hNXY hNYZ hNXYZ
  obtain ⟨v, hv⟩ : ∃ v, stand r (r ++ q) = v := ⟨_, rfl⟩
  have HV : Hid (stand r (r ++ q) = v) := hv
  have HB : Hid (((r ++ q).take x == r) = true) := beg_app r q x hs.len
  have HVV : Hid (v = -(min (y : Int) 1)) := by
    show _ = _
    rcases Nat.eq_zero_or_pos y with h0 | h0
    · have : q = [] := List.eq_nil_of_length_eq_zero (by rw [ht.len]; exact h0)
      subst this
      rw [stand_app0] at hv
      omega
    · rw [stand_app r q (by rw [ht.len]; exact h0)] at hv
      omega
  clear hv
  go_cut [82] from 19 (fun s82 wx => s82 = .bool false ∧ Fr [] wc wx)
  case first => as_aux_lemma =>
    obtain ⟨W0, hW0⟩ : ∃ W0, W0 = wc := ⟨_, rfl⟩
    have gg : Fr [] W0 wc.drew := (by rw [hW0]; exact (Fr.refl _ _).drew)
    have SK : Hid (∀ w', Fr [] W0 w' → (w'.cell? ⟨B, 0, none⟩ = some (.string s) ∧ w'.cell? ⟨B, 1, none⟩ = some (.int .i64 (x : Int))) ∧ (w'.cell? ⟨BY, 0, none⟩ = some (.string t) ∧ w'.cell? ⟨BY, 1, none⟩ = some (.int .i64 (y : Int))) ∧ (w'.cell? ⟨BZ, 0, none⟩ = some (.string u) ∧ w'.cell? ⟨BZ, 1, none⟩ = some (.int .i64 (z : Int)))) := (by rw [hW0]; exact fun w' g => ⟨(bx.kept g (by simp)).two, (by'.kept g (by simp)).two, (bz.kept g (by simp)).two⟩)
    have HW0 : Hid (W0 = wc) := hW0
    clear hW0
    go_region_held3 (fun w' => (w'.cell? ⟨B, 0, none⟩ = some (.string s) ∧ w'.cell? ⟨B, 1, none⟩ = some (.int .i64 (x : Int))) ∧ (w'.cell? ⟨BY, 0, none⟩ = some (.string t) ∧ w'.cell? ⟨BY, 1, none⟩ = some (.int .i64 (y : Int))) ∧ (w'.cell? ⟨BZ, 0, none⟩ = some (.string u) ∧ w'.cell? ⟨BZ, 1, none⟩ = some (.int .i64 (z : Int)))) (first | exact SK.out _ gg | exact SK.out _ (gg.alloc _) | exact SK.out _ (gg.put2 zl.out _ _))
      ((first | (go_at_call_of 16 (#[Value.agg #[Value.string s, Value.int IntKind.i64 (x : Int)], Value.agg #[Value.string t, Value.int IntKind.i64 (y : Int)]]); refine (and_any _ s t x y NXY r q hs ht H1.out.1 H1.out.2).mono ?_; rintro e w5 ⟨xy, rfl, hxy, f5⟩; (first | (replace gg := gg.trans f5; (try replace zb := zb.kept f5 (by simp)); (try replace hbyA := hbyA.kept f5 (by simp)); (try replace hbyB := hbyB.kept f5 (by simp))) | (obtain ⟨zb, gg', zl'⟩ := allocdD gg f5; have zl : Hid (W0.heap.size ≤ _) := zl'; replace gg := gg'; (try replace hbyA := hbyA.allocd f5); (try replace hbyB := hbyB.allocd f5)) | (obtain ⟨zb, gg', zl'⟩ := allocd gg f5; have zl : Hid (W0.heap.size ≤ _) := zl'; replace gg := gg'; (try replace hbyA := hbyA.allocd f5); (try replace hbyB := hbyB.allocd f5))); (try (have z0 := zb.c0; have z1 : World.cell? _ _ = some (.int .i64 0) := zb.c1; have z2 := zb.fz 0; have z3 := zb.fz 1))) | (go_at_call_of 16 (#[bv xy NXY, Value.agg #[Value.string u, Value.int IntKind.i64 (z : Int)]]); refine (and_any _ xy u NXY z NXYZ (r ++ q) p hxy hu H3.out.1 H3.out.2).mono ?_; rintro e w5 ⟨xyz, rfl, hxyz, f5⟩; (first | (replace gg := gg.trans f5; (try replace zb := zb.kept f5 (by simp)); (try replace hbyA := hbyA.kept f5 (by simp)); (try replace hbyB := hbyB.kept f5 (by simp))) | (obtain ⟨zb, gg', zl'⟩ := allocdD gg f5; have zl : Hid (W0.heap.size ≤ _) := zl'; replace gg := gg'; (try replace hbyA := hbyA.allocd f5); (try replace hbyB := hbyB.allocd f5)) | (obtain ⟨zb, gg', zl'⟩ := allocd gg f5; have zl : Hid (W0.heap.size ≤ _) := zl'; replace gg := gg'; (try replace hbyA := hbyA.allocd f5); (try replace hbyB := hbyB.allocd f5))); (try (have z0 := zb.c0; have z1 : World.cell? _ _ = some (.int .i64 0) := zb.c1; have z2 := zb.fz 0; have z3 := zb.fz 1))) | (go_at_call_of 16 (#[Value.agg #[Value.string t, Value.int IntKind.i64 (y : Int)], Value.agg #[Value.string u, Value.int IntKind.i64 (z : Int)]]); refine (and_any _ t u y z NYZ q p ht hu H2.out.1 H2.out.2).mono ?_; rintro e w5 ⟨yz, rfl, hyz, f5⟩; (first | (replace gg := gg.trans f5; (try replace zb := zb.kept f5 (by simp)); (try replace hbyA := hbyA.kept f5 (by simp)); (try replace hbyB := hbyB.kept f5 (by simp))) | (obtain ⟨zb, gg', zl'⟩ := allocdD gg f5; have zl : Hid (W0.heap.size ≤ _) := zl'; replace gg := gg'; (try replace hbyA := hbyA.allocd f5); (try replace hbyB := hbyB.allocd f5)) | (obtain ⟨zb, gg', zl'⟩ := allocd gg f5; have zl : Hid (W0.heap.size ≤ _) := zl'; replace gg := gg'; (try replace hbyA := hbyA.allocd f5); (try replace hbyB := hbyB.allocd f5))); (try (have z0 := zb.c0; have z1 : World.cell? _ _ = some (.int .i64 0) := zb.c1; have z2 := zb.fz 0; have z3 := zb.fz 1))) | (go_at_call_of 16 (#[Value.agg #[Value.string s, Value.int IntKind.i64 (x : Int)], bv yz NYZ]); refine (and_any _ s yz x NYZ NXYZ r (q ++ p) hs hyz H4.out.1 H4.out.2).mono ?_; rintro e w5 ⟨xyz, rfl, hxyz, f5⟩; rw [← List.append_assoc] at hxyz; (first | (replace gg := gg.trans f5; (try replace zb := zb.kept f5 (by simp)); (try replace hbyA := hbyA.kept f5 (by simp)); (try replace hbyB := hbyB.kept f5 (by simp))) | (obtain ⟨zb, gg', zl'⟩ := allocdD gg f5; have zl : Hid (W0.heap.size ≤ _) := zl'; replace gg := gg'; (try replace hbyA := hbyA.allocd f5); (try replace hbyB := hbyB.allocd f5)) | (obtain ⟨zb, gg', zl'⟩ := allocd gg f5; have zl : Hid (W0.heap.size ≤ _) := zl'; replace gg := gg'; (try replace hbyA := hbyA.allocd f5); (try replace hbyB := hbyB.allocd f5))); (try (have z0 := zb.c0; have z1 : World.cell? _ _ = some (.int .i64 0) := zb.c1; have z2 := zb.fz 0; have z3 := zb.fz 1))) | (go_at_call_of 13 xyz; refine (text_any _ xyz NXYZ _ hxyz).mono ?_; rintro e w5 ⟨rfl, f5⟩; (first | (replace gg := gg.trans f5; (try replace zb := zb.kept f5 (by simp)); (try replace hbyA := hbyA.kept f5 (by simp)); (try replace hbyB := hbyB.kept f5 (by simp))) | (obtain ⟨zb, gg', zl'⟩ := allocdD gg f5; have zl : Hid (W0.heap.size ≤ _) := zl'; replace gg := gg'; (try replace hbyA := hbyA.allocd f5); (try replace hbyB := hbyB.allocd f5)) | (obtain ⟨zb, gg', zl'⟩ := allocd gg f5; have zl : Hid (W0.heap.size ≤ _) := zl'; replace gg := gg'; (try replace hbyA := hbyA.allocd f5); (try replace hbyB := hbyB.allocd f5))); (try (have z0 := zb.c0; have z1 : World.cell? _ _ = some (.int .i64 0) := zb.c1; have z2 := zb.fz 0; have z3 := zb.fz 1))) | (go_at_call_of 29 (#[bv xy NXY, Value.agg #[Value.string s, Value.int IntKind.i64 (x : Int)]]); refine (begins_any _ xy s NXY x (r ++ q) r hxy hs).mono ?_; rw [HB.out]; rintro e w5 ⟨rfl, f5⟩; (first | (replace gg := gg.trans f5; (try replace zb := zb.kept f5 (by simp)); (try replace hbyA := hbyA.kept f5 (by simp)); (try replace hbyB := hbyB.kept f5 (by simp))) | (obtain ⟨zb, gg', zl'⟩ := allocdD gg f5; have zl : Hid (W0.heap.size ≤ _) := zl'; replace gg := gg'; (try replace hbyA := hbyA.allocd f5); (try replace hbyB := hbyB.allocd f5)) | (obtain ⟨zb, gg', zl'⟩ := allocd gg f5; have zl : Hid (W0.heap.size ≤ _) := zl'; replace gg := gg'; (try replace hbyA := hbyA.allocd f5); (try replace hbyB := hbyB.allocd f5))); (try (have z0 := zb.c0; have z1 : World.cell? _ _ = some (.int .i64 0) := zb.c1; have z2 := zb.fz 0; have z3 := zb.fz 1))) | (go_at_call_of 27 (#[Value.agg #[Value.string s, Value.int IntKind.i64 (x : Int)], bv xy NXY]); refine (compare_any _ s xy x NXY r (r ++ q) hs hxy).mono ?_; rw [HV.out]; rintro e w5 ⟨rfl, f5⟩; (first | (replace gg := gg.trans f5; (try replace zb := zb.kept f5 (by simp)); (try replace hbyA := hbyA.kept f5 (by simp)); (try replace hbyB := hbyB.kept f5 (by simp))) | (obtain ⟨zb, gg', zl'⟩ := allocdD gg f5; have zl : Hid (W0.heap.size ≤ _) := zl'; replace gg := gg'; (try replace hbyA := hbyA.allocd f5); (try replace hbyB := hbyB.allocd f5)) | (obtain ⟨zb, gg', zl'⟩ := allocd gg f5; have zl : Hid (W0.heap.size ≤ _) := zl'; replace gg := gg'; (try replace hbyA := hbyA.allocd f5); (try replace hbyB := hbyB.allocd f5))); (try (have z0 := zb.c0; have z1 : World.cell? _ _ = some (.int .i64 0) := zb.c1; have z2 := zb.fz 0; have z3 := zb.fz 1))) | (go_at_call_of 12 t; refine (len_any _ t y).mono ?_; rintro e w5 ⟨rfl, f5⟩; (first | (replace gg := gg.trans f5; (try replace zb := zb.kept f5 (by simp)); (try replace hbyA := hbyA.kept f5 (by simp)); (try replace hbyB := hbyB.kept f5 (by simp))) | (obtain ⟨zb, gg', zl'⟩ := allocdD gg f5; have zl : Hid (W0.heap.size ≤ _) := zl'; replace gg := gg'; (try replace hbyA := hbyA.allocd f5); (try replace hbyB := hbyB.allocd f5)) | (obtain ⟨zb, gg', zl'⟩ := allocd gg f5; have zl : Hid (W0.heap.size ≤ _) := zl'; replace gg := gg'; (try replace hbyA := hbyA.allocd f5); (try replace hbyB := hbyB.allocd f5))); (try (have z0 := zb.c0; have z1 : World.cell? _ _ = some (.int .i64 0) := zb.c1; have z2 := zb.fz 0; have z3 := zb.fz 1)))))
    all_goals go_wp2
    all_goals go_meet
    all_goals (have HW := HW0.out; subst HW)
    all_goals (refine ⟨?_, gg⟩; rw [HVV.out, wrapI (by omega) (by omega)]; congr 1; rw [bne_eq_false_iff_eq]; omega)
  obtain ⟨rfl, f6⟩ := hcut
  replace bx := bx.kept f6 (by simp)
  replace by' := by'.kept f6 (by simp)
  replace bz := bz.kept f6 (by simp)
  replace g4 := g4.trans f6
  clear f6
  go_wp2_with fail
  clear HB HV HVV H2 H3 H4 H1
  refine (of_lit _ [49] [true] (by decide) (by decide)).mono ?_
  rintro e wo ⟨⟨o, rfl, ho⟩, f6⟩
  replace bx := (bx.kept f6 (by simp)).kept ((Fr.refl [] wo).alloc (.cells #[.string o, .int .i64 1] 24)) (by simp)
  replace by' := (by'.kept f6 (by simp)).kept ((Fr.refl [] wo).alloc (.cells #[.string o, .int .i64 1] 24)) (by simp)
  have bo : Box (wo.alloc (.cells #[.string o, .int .i64 1] 24)) wo.heap.size o 1 := Box.new wo o 1
  replace g4 := (g4.trans f6).alloc (.cells #[.string o, .int .i64 1] 24)
  clear f6
  go_wp2_with fail
  generalize wo.alloc (.cells #[.string o, .int .i64 1] 24) = wp at bx by' bo g4 ⊢
  generalize wo.heap.size = BO at bo ⊢
  obtain ⟨NXO, hNXO⟩ : ∃ n, x + 1 = n := ⟨_, rfl⟩
  obtain ⟨NL, hNL⟩ : ∃ n, NXO + y = n := ⟨_, rfl⟩
  have H1 : Hid (x + 1 = NXO ∧ NXO ≤ 1048576) := ⟨hNXO, by omega⟩
  have H2 : Hid (NXO + y = NL ∧ NL ≤ 1048576) := ⟨hNL, by omega⟩
  clear hNXO hNL
  go_cut [14] from 19 (fun s14 wx => ∃ b g, s14 = .pointer (some ⟨b, 0, none⟩) ∧ Box wx b g NL ∧ Rep g NL ((r ++ [true]) ++ q) ∧ Fr [] wp wx)
  case first => as_aux_lemma =>
    obtain ⟨W0, hW0⟩ : ∃ W0, W0 = wp := ⟨_, rfl⟩
    have gg : Fr [] W0 wp.drew := (by rw [hW0]; exact (Fr.refl _ _).drew)
    have SK : Hid (∀ w', Fr [] W0 w' → (w'.cell? ⟨B, 0, none⟩ = some (.string s) ∧ w'.cell? ⟨B, 1, none⟩ = some (.int .i64 (x : Int))) ∧ (w'.cell? ⟨BY, 0, none⟩ = some (.string t) ∧ w'.cell? ⟨BY, 1, none⟩ = some (.int .i64 (y : Int))) ∧ (w'.cell? ⟨BO, 0, none⟩ = some (.string o) ∧ w'.cell? ⟨BO, 1, none⟩ = some (.int .i64 1))) := (by rw [hW0]; exact fun w' g => ⟨(bx.kept g (by simp)).two, (by'.kept g (by simp)).two, (bo.kept g (by simp)).two⟩)
    have HW0 : Hid (W0 = wp) := hW0
    clear hW0
    go_region_held3 (fun w' => (w'.cell? ⟨B, 0, none⟩ = some (.string s) ∧ w'.cell? ⟨B, 1, none⟩ = some (.int .i64 (x : Int))) ∧ (w'.cell? ⟨BY, 0, none⟩ = some (.string t) ∧ w'.cell? ⟨BY, 1, none⟩ = some (.int .i64 (y : Int))) ∧ (w'.cell? ⟨BO, 0, none⟩ = some (.string o) ∧ w'.cell? ⟨BO, 1, none⟩ = some (.int .i64 1))) (first | exact SK.out _ gg | exact SK.out _ (gg.alloc _) | exact SK.out _ (gg.put2 zl.out _ _))
      ((first | (go_at_call_of 16 (#[Value.agg #[Value.string s, Value.int IntKind.i64 (x : Int)], Value.agg #[Value.string o, Value.int IntKind.i64 1]]); refine (and_any _ s o x 1 NXO r [true] hs ho H1.out.1 H1.out.2).mono ?_; rintro e w5 ⟨xo, rfl, hxo, f5⟩; (first | (replace gg := gg.trans f5; (try replace zb := zb.kept f5 (by simp)); (try replace hbyA := hbyA.kept f5 (by simp)); (try replace hbyB := hbyB.kept f5 (by simp))) | (obtain ⟨zb, gg', zl'⟩ := allocdD gg f5; have zl : Hid (W0.heap.size ≤ _) := zl'; replace gg := gg'; (try replace hbyA := hbyA.allocd f5); (try replace hbyB := hbyB.allocd f5)) | (obtain ⟨zb, gg', zl'⟩ := allocd gg f5; have zl : Hid (W0.heap.size ≤ _) := zl'; replace gg := gg'; (try replace hbyA := hbyA.allocd f5); (try replace hbyB := hbyB.allocd f5))); (try (have z0 := zb.c0; have z1 : World.cell? _ _ = some (.int .i64 0) := zb.c1; have z2 := zb.fz 0; have z3 := zb.fz 1))) | (go_at_call_of 16 (#[bv xo NXO, Value.agg #[Value.string t, Value.int IntKind.i64 (y : Int)]]); refine (and_any _ xo t NXO y NL (r ++ [true]) q hxo ht H2.out.1 H2.out.2).mono ?_; rintro e w5 ⟨g, rfl, hg, f5⟩; (first | (replace gg := gg.trans f5; (try replace zb := zb.kept f5 (by simp)); (try replace hbyA := hbyA.kept f5 (by simp)); (try replace hbyB := hbyB.kept f5 (by simp))) | (obtain ⟨zb, gg', zl'⟩ := allocdD gg f5; have zl : Hid (W0.heap.size ≤ _) := zl'; replace gg := gg'; (try replace hbyA := hbyA.allocd f5); (try replace hbyB := hbyB.allocd f5)) | (obtain ⟨zb, gg', zl'⟩ := allocd gg f5; have zl : Hid (W0.heap.size ≤ _) := zl'; replace gg := gg'; (try replace hbyA := hbyA.allocd f5); (try replace hbyB := hbyB.allocd f5))); (try (have z0 := zb.c0; have z1 : World.cell? _ _ = some (.int .i64 0) := zb.c1; have z2 := zb.fz 0; have z3 := zb.fz 1)))))
    all_goals go_wp2
    all_goals go_meet
    all_goals (have HW := HW0.out; subst HW)
    all_goals (first | exact ⟨_, g, rfl, Box.new _ g NL, hg, gg.alloc _⟩ | exact ⟨_, g, rfl, zb.put g NL, hg, gg.put2 zl.out _ _⟩)
  obtain ⟨BL, g, rfl, bg, hg, f6⟩ := hcut
  replace bx := bx.kept f6 (by simp)
  replace by' := by'.kept f6 (by simp)
  replace g4 := g4.trans f6
  clear f6
  go_wp2_with fail
  obtain ⟨KG, hKG⟩ : ∃ K, (bl g).length = K := ⟨_, rfl⟩
  have HKG : Hid ((bl g).length = KG) := hKG
  have hgz : g.size ≤ 16777216 := by rw [hg.size]; have := hg.most; omega
  have hK1 : K < 9223372036854775808 := by have := HK.out; rw [bl_length] at this; omega
  have hK2 : KG < 9223372036854775808 := by rw [bl_length] at hKG; omega
  clear hKG
  have HS1 : Hid (stand r ((r ++ [true]) ++ q) = -1) := stand_one r q
  have HS2 : Hid (compareBytes (bl s) (bl g) = -1) := cb_one hs hg
  go_cut [103] from 19 (fun s103 wx => s103 = .bool false ∧ Fr [] wc wx)
  case first => as_aux_lemma =>
    obtain ⟨W0, hW0⟩ : ∃ W0, W0 = wc := ⟨_, rfl⟩
    have gg : Fr [] W0 wc.drew := (by rw [hW0]; exact (Fr.refl _ _).drew)
    have SK : Hid (∀ w', Fr [] W0 w' → (w'.cell? ⟨B, 0, none⟩ = some (.string s) ∧ w'.cell? ⟨B, 1, none⟩ = some (.int .i64 (x : Int))) ∧ (w'.cell? ⟨BY, 0, none⟩ = some (.string t) ∧ w'.cell? ⟨BY, 1, none⟩ = some (.int .i64 (y : Int))) ∧ (w'.cell? ⟨BL, 0, none⟩ = some (.string g) ∧ w'.cell? ⟨BL, 1, none⟩ = some (.int .i64 (NL : Int)))) := (by rw [hW0]; exact fun w' g => ⟨(bx.kept g (by simp)).two, (by'.kept g (by simp)).two, (bg.kept g (by simp)).two⟩)
    have HW0 : Hid (W0 = wc) := hW0
    clear hW0
    go_region_held3 (fun w' => (w'.cell? ⟨B, 0, none⟩ = some (.string s) ∧ w'.cell? ⟨B, 1, none⟩ = some (.int .i64 (x : Int))) ∧ (w'.cell? ⟨BY, 0, none⟩ = some (.string t) ∧ w'.cell? ⟨BY, 1, none⟩ = some (.int .i64 (y : Int))) ∧ (w'.cell? ⟨BL, 0, none⟩ = some (.string g) ∧ w'.cell? ⟨BL, 1, none⟩ = some (.int .i64 (NL : Int)))) (first | exact SK.out _ gg | exact SK.out _ (gg.alloc _) | exact SK.out _ (gg.put2 zl.out _ _))
      ((first | (go_at_call_of 27 (#[Value.agg #[Value.string s, Value.int IntKind.i64 (x : Int)], Value.agg #[Value.string g, Value.int IntKind.i64 (NL : Int)]]); refine (compare_any _ s g x NL r ((r ++ [true]) ++ q) hs hg).mono ?_; rw [HS1.out]; rintro e w5 ⟨rfl, f5⟩; (first | (replace gg := gg.trans f5; (try replace zb := zb.kept f5 (by simp)); (try replace hbyA := hbyA.kept f5 (by simp)); (try replace hbyB := hbyB.kept f5 (by simp))) | (obtain ⟨zb, gg', zl'⟩ := allocdD gg f5; have zl : Hid (W0.heap.size ≤ _) := zl'; replace gg := gg'; (try replace hbyA := hbyA.allocd f5); (try replace hbyB := hbyB.allocd f5)) | (obtain ⟨zb, gg', zl'⟩ := allocd gg f5; have zl : Hid (W0.heap.size ≤ _) := zl'; replace gg := gg'; (try replace hbyA := hbyA.allocd f5); (try replace hbyB := hbyB.allocd f5))); (try (have z0 := zb.c0; have z1 : World.cell? _ _ = some (.int .i64 0) := zb.c1; have z2 := zb.fz 0; have z3 := zb.fz 1))) | (go_at_call_of 20 s; refine (pack_any _ s x hsz).mono ?_; rintro e w5 ⟨pv, rfl, hp, f5⟩; (first | (replace gg := gg.trans f5; (try replace zb := zb.kept f5 (by simp)); (try replace hbyA := hbyA.kept f5 (by simp)); (try replace hbyB := hbyB.kept f5 (by simp))) | (obtain ⟨zb, gg', zl'⟩ := allocdD gg f5; have zl : Hid (W0.heap.size ≤ _) := zl'; replace gg := gg'; (try replace hbyA := hbyA.allocd f5); (try replace hbyB := hbyB.allocd f5)) | (obtain ⟨zb, gg', zl'⟩ := allocd gg f5; have zl : Hid (W0.heap.size ≤ _) := zl'; replace gg := gg'; (try replace hbyA := hbyA.allocd f5); (try replace hbyB := hbyB.allocd f5))); (try (have z0 := zb.c0; have z1 : World.cell? _ _ = some (.int .i64 0) := zb.c1; have z2 := zb.fz 0; have z3 := zb.fz 1)); obtain ⟨adA, capA, hv, hbyA, hlo, hpl⟩ := hp.bytes; rw [HK.out] at hv; subst hv; have plA : Hid (Plain adA) := (by rcases Nat.eq_zero_or_pos (bl s).length with hh | hh; exact hpl hh; (obtain ⟨b0, o0, e0, _⟩ := hbyA.at 0 hh); exact Or.inr ⟨b0, o0, e0⟩); clear hlo hpl hp) | (go_at_call_of 20 g; refine (pack_any _ g NL hgz).mono ?_; rintro e w5 ⟨pv, rfl, hp, f5⟩; (first | (replace gg := gg.trans f5; (try replace zb := zb.kept f5 (by simp)); (try replace hbyA := hbyA.kept f5 (by simp)); (try replace hbyB := hbyB.kept f5 (by simp))) | (obtain ⟨zb, gg', zl'⟩ := allocdD gg f5; have zl : Hid (W0.heap.size ≤ _) := zl'; replace gg := gg'; (try replace hbyA := hbyA.allocd f5); (try replace hbyB := hbyB.allocd f5)) | (obtain ⟨zb, gg', zl'⟩ := allocd gg f5; have zl : Hid (W0.heap.size ≤ _) := zl'; replace gg := gg'; (try replace hbyA := hbyA.allocd f5); (try replace hbyB := hbyB.allocd f5))); (try (have z0 := zb.c0; have z1 : World.cell? _ _ = some (.int .i64 0) := zb.c1; have z2 := zb.fz 0; have z3 := zb.fz 1)); obtain ⟨adB, capB, hv, hbyB, hlo, hpl⟩ := hp.bytes; rw [HKG.out] at hv; subst hv; have plB : Hid (Plain adB) := (by rcases Nat.eq_zero_or_pos (bl g).length with hh | hh; exact hpl hh; (obtain ⟨b0, o0, e0, _⟩ := hbyB.at 0 hh); exact Or.inr ⟨b0, o0, e0⟩); clear hlo hpl hp) | (go_at_call 33; refine (sign_any _ adA adB K KG capA capB (bl s) (bl g) HK.out HKG.out hbyA hbyB hK1 hK2).mono ?_; rw [HS2.out]; rintro e w5 ⟨rfl, f5⟩; (first | (replace gg := gg.trans f5; (try replace zb := zb.kept f5 (by simp)); (try replace hbyA := hbyA.kept f5 (by simp)); (try replace hbyB := hbyB.kept f5 (by simp))) | (obtain ⟨zb, gg', zl'⟩ := allocdD gg f5; have zl : Hid (W0.heap.size ≤ _) := zl'; replace gg := gg'; (try replace hbyA := hbyA.allocd f5); (try replace hbyB := hbyB.allocd f5)) | (obtain ⟨zb, gg', zl'⟩ := allocd gg f5; have zl : Hid (W0.heap.size ≤ _) := zl'; replace gg := gg'; (try replace hbyA := hbyA.allocd f5); (try replace hbyB := hbyB.allocd f5))); (try (have z0 := zb.c0; have z1 : World.cell? _ _ = some (.int .i64 0) := zb.c1; have z2 := zb.fz 0; have z3 := zb.fz 1)))))
    all_goals go_wp2
    all_goals go_meet
    all_goals (have HW := HW0.out; subst HW)
    all_goals exact ⟨rfl, gg⟩
  obtain ⟨rfl, f6⟩ := hcut
  replace bx := bx.kept f6 (by simp)
  replace by' := by'.kept f6 (by simp)
  replace g4 := g4.trans f6
  clear f6
  go_wp2_with fail
  clear bg hg HS1 HS2 HKG hK2 hgz H1 H2
  obtain ⟨M, hM⟩ : ∃ M, min x y = M := ⟨_, rfl⟩
  have HM : Hid (min x y = M) := hM
  clear hM
  go_cut [15] from 19 (fun s15 wx => ∃ b c, s15 = .pointer (some ⟨b, 0, none⟩) ∧ Box wx b c M ∧ Rep c M (r.take M) ∧ Fr [] wc wx)
  case first => as_aux_lemma =>
    by_cases hm : x ≤ y
    · have hMx : M = x := by have := HM.out; omega
      have hi : ¬ ((y : Int) < (x : Int)) := by omega
      have hi2 : ¬ (y < x) := by omega
      have HMx : Hid (M = x) := hMx
      clear hMx
      obtain ⟨W0, hW0⟩ : ∃ W0, W0 = wc := ⟨_, rfl⟩
      have gg : Fr [] W0 wc.drew := (by rw [hW0]; exact (Fr.refl _ _).drew)
      have SK : Hid (∀ w', Fr [] W0 w' → (w'.cell? ⟨B, 0, none⟩ = some (.string s) ∧ w'.cell? ⟨B, 1, none⟩ = some (.int .i64 (x : Int))) ∧ (w'.cell? ⟨BY, 0, none⟩ = some (.string t) ∧ w'.cell? ⟨BY, 1, none⟩ = some (.int .i64 (y : Int)))) := (by rw [hW0]; exact fun w' g => ⟨(bx.kept g (by simp)).two, (by'.kept g (by simp)).two⟩)
      have HW0 : Hid (W0 = wc) := hW0
      clear hW0
      go_region_held3 (fun w' => (w'.cell? ⟨B, 0, none⟩ = some (.string s) ∧ w'.cell? ⟨B, 1, none⟩ = some (.int .i64 (x : Int))) ∧ (w'.cell? ⟨BY, 0, none⟩ = some (.string t) ∧ w'.cell? ⟨BY, 1, none⟩ = some (.int .i64 (y : Int)))) (first | exact SK.out _ gg | exact SK.out _ (gg.alloc _) | exact SK.out _ (gg.put2 zl.out _ _))
        ((first | (go_at_call_of 12 s; refine (len_any _ s x).mono ?_; rintro e w5 ⟨rfl, f5⟩; (first | (replace gg := gg.trans f5; (try replace zb := zb.kept f5 (by simp)); (try replace hbyA := hbyA.kept f5 (by simp)); (try replace hbyB := hbyB.kept f5 (by simp))) | (obtain ⟨zb, gg', zl'⟩ := allocdD gg f5; have zl : Hid (W0.heap.size ≤ _) := zl'; replace gg := gg'; (try replace hbyA := hbyA.allocd f5); (try replace hbyB := hbyB.allocd f5)) | (obtain ⟨zb, gg', zl'⟩ := allocd gg f5; have zl : Hid (W0.heap.size ≤ _) := zl'; replace gg := gg'; (try replace hbyA := hbyA.allocd f5); (try replace hbyB := hbyB.allocd f5))); (try (have z0 := zb.c0; have z1 : World.cell? _ _ = some (.int .i64 0) := zb.c1; have z2 := zb.fz 0; have z3 := zb.fz 1))) | (go_at_call_of 12 t; refine (len_any _ t y).mono ?_; rintro e w5 ⟨rfl, f5⟩; (first | (replace gg := gg.trans f5; (try replace zb := zb.kept f5 (by simp)); (try replace hbyA := hbyA.kept f5 (by simp)); (try replace hbyB := hbyB.kept f5 (by simp))) | (obtain ⟨zb, gg', zl'⟩ := allocdD gg f5; have zl : Hid (W0.heap.size ≤ _) := zl'; replace gg := gg'; (try replace hbyA := hbyA.allocd f5); (try replace hbyB := hbyB.allocd f5)) | (obtain ⟨zb, gg', zl'⟩ := allocd gg f5; have zl : Hid (W0.heap.size ≤ _) := zl'; replace gg := gg'; (try replace hbyA := hbyA.allocd f5); (try replace hbyB := hbyB.allocd f5))); (try (have z0 := zb.c0; have z1 : World.cell? _ _ = some (.int .i64 0) := zb.c1; have z2 := zb.fz 0; have z3 := zb.fz 1))) | (go_at_call 18; refine (cut_in _ s x 0 x x r hs (by omega) (by omega)).mono ?_; rw [List.drop_zero]; rintro e w5 ⟨c, rfl, hc, f5⟩; (first | (replace gg := gg.trans f5; (try replace zb := zb.kept f5 (by simp)); (try replace hbyA := hbyA.kept f5 (by simp)); (try replace hbyB := hbyB.kept f5 (by simp))) | (obtain ⟨zb, gg', zl'⟩ := allocdD gg f5; have zl : Hid (W0.heap.size ≤ _) := zl'; replace gg := gg'; (try replace hbyA := hbyA.allocd f5); (try replace hbyB := hbyB.allocd f5)) | (obtain ⟨zb, gg', zl'⟩ := allocd gg f5; have zl : Hid (W0.heap.size ≤ _) := zl'; replace gg := gg'; (try replace hbyA := hbyA.allocd f5); (try replace hbyB := hbyB.allocd f5))); (try (have z0 := zb.c0; have z1 : World.cell? _ _ = some (.int .i64 0) := zb.c1; have z2 := zb.fz 0; have z3 := zb.fz 1)))))
      all_goals go_wp2
      all_goals go_meet
      all_goals (have HW := HW0.out; subst HW)
      all_goals rw [HMx.out]
      all_goals (first | exact ⟨_, c, rfl, Box.new _ c x, hc, gg.alloc _⟩ | exact ⟨_, c, rfl, zb.put c x, hc, gg.put2 zl.out _ _⟩)
    · have hMx : M = y := by have := HM.out; omega
      have hi : (y : Int) < (x : Int) := by omega
      have HMx : Hid (M = y) := hMx
      clear hMx
      obtain ⟨W0, hW0⟩ : ∃ W0, W0 = wc := ⟨_, rfl⟩
      have gg : Fr [] W0 wc.drew := (by rw [hW0]; exact (Fr.refl _ _).drew)
      have SK : Hid (∀ w', Fr [] W0 w' → (w'.cell? ⟨B, 0, none⟩ = some (.string s) ∧ w'.cell? ⟨B, 1, none⟩ = some (.int .i64 (x : Int))) ∧ (w'.cell? ⟨BY, 0, none⟩ = some (.string t) ∧ w'.cell? ⟨BY, 1, none⟩ = some (.int .i64 (y : Int)))) := (by rw [hW0]; exact fun w' g => ⟨(bx.kept g (by simp)).two, (by'.kept g (by simp)).two⟩)
      have HW0 : Hid (W0 = wc) := hW0
      clear hW0
      go_region_held3 (fun w' => (w'.cell? ⟨B, 0, none⟩ = some (.string s) ∧ w'.cell? ⟨B, 1, none⟩ = some (.int .i64 (x : Int))) ∧ (w'.cell? ⟨BY, 0, none⟩ = some (.string t) ∧ w'.cell? ⟨BY, 1, none⟩ = some (.int .i64 (y : Int)))) (first | exact SK.out _ gg | exact SK.out _ (gg.alloc _) | exact SK.out _ (gg.put2 zl.out _ _))
        ((first | (go_at_call_of 12 s; refine (len_any _ s x).mono ?_; rintro e w5 ⟨rfl, f5⟩; (first | (replace gg := gg.trans f5; (try replace zb := zb.kept f5 (by simp)); (try replace hbyA := hbyA.kept f5 (by simp)); (try replace hbyB := hbyB.kept f5 (by simp))) | (obtain ⟨zb, gg', zl'⟩ := allocdD gg f5; have zl : Hid (W0.heap.size ≤ _) := zl'; replace gg := gg'; (try replace hbyA := hbyA.allocd f5); (try replace hbyB := hbyB.allocd f5)) | (obtain ⟨zb, gg', zl'⟩ := allocd gg f5; have zl : Hid (W0.heap.size ≤ _) := zl'; replace gg := gg'; (try replace hbyA := hbyA.allocd f5); (try replace hbyB := hbyB.allocd f5))); (try (have z0 := zb.c0; have z1 : World.cell? _ _ = some (.int .i64 0) := zb.c1; have z2 := zb.fz 0; have z3 := zb.fz 1))) | (go_at_call_of 12 t; refine (len_any _ t y).mono ?_; rintro e w5 ⟨rfl, f5⟩; (first | (replace gg := gg.trans f5; (try replace zb := zb.kept f5 (by simp)); (try replace hbyA := hbyA.kept f5 (by simp)); (try replace hbyB := hbyB.kept f5 (by simp))) | (obtain ⟨zb, gg', zl'⟩ := allocdD gg f5; have zl : Hid (W0.heap.size ≤ _) := zl'; replace gg := gg'; (try replace hbyA := hbyA.allocd f5); (try replace hbyB := hbyB.allocd f5)) | (obtain ⟨zb, gg', zl'⟩ := allocd gg f5; have zl : Hid (W0.heap.size ≤ _) := zl'; replace gg := gg'; (try replace hbyA := hbyA.allocd f5); (try replace hbyB := hbyB.allocd f5))); (try (have z0 := zb.c0; have z1 : World.cell? _ _ = some (.int .i64 0) := zb.c1; have z2 := zb.fz 0; have z3 := zb.fz 1))) | (go_at_call 18; refine (cut_in _ s x 0 y y r hs (by omega) (by omega)).mono ?_; rw [List.drop_zero]; rintro e w5 ⟨c, rfl, hc, f5⟩; (first | (replace gg := gg.trans f5; (try replace zb := zb.kept f5 (by simp)); (try replace hbyA := hbyA.kept f5 (by simp)); (try replace hbyB := hbyB.kept f5 (by simp))) | (obtain ⟨zb, gg', zl'⟩ := allocdD gg f5; have zl : Hid (W0.heap.size ≤ _) := zl'; replace gg := gg'; (try replace hbyA := hbyA.allocd f5); (try replace hbyB := hbyB.allocd f5)) | (obtain ⟨zb, gg', zl'⟩ := allocd gg f5; have zl : Hid (W0.heap.size ≤ _) := zl'; replace gg := gg'; (try replace hbyA := hbyA.allocd f5); (try replace hbyB := hbyB.allocd f5))); (try (have z0 := zb.c0; have z1 : World.cell? _ _ = some (.int .i64 0) := zb.c1; have z2 := zb.fz 0; have z3 := zb.fz 1)))))
      all_goals go_wp2
      all_goals go_meet
      all_goals (have HW := HW0.out; subst HW)
      all_goals rw [HMx.out]
      all_goals (first | exact ⟨_, c, rfl, Box.new _ c y, hc, gg.alloc _⟩ | exact ⟨_, c, rfl, zb.put c y, hc, gg.put2 zl.out _ _⟩)
  obtain ⟨BC, c, rfl, bc, hc, f6⟩ := hcut
  replace bx := bx.kept f6 (by simp)
  replace by' := by'.kept f6 (by simp)
  replace g4 := g4.trans f6
  clear f6
  go_wp2_with fail
  go_cut [17] from 19 (fun s17 wx => ∃ b d, s17 = .pointer (some ⟨b, 0, none⟩) ∧ Box wx b d M ∧ Rep d M (q.take M) ∧ Fr [] wc wx)
  case first => as_aux_lemma =>
    by_cases hm : x ≤ y
    · have hMx : M = x := by have := HM.out; omega
      have hi : ¬ ((y : Int) < (x : Int)) := by omega
      have hi2 : ¬ (y < x) := by omega
      have HMx : Hid (M = x) := hMx
      clear hMx
      obtain ⟨W0, hW0⟩ : ∃ W0, W0 = wc := ⟨_, rfl⟩
      have gg : Fr [] W0 wc.drew := (by rw [hW0]; exact (Fr.refl _ _).drew)
      have SK : Hid (∀ w', Fr [] W0 w' → (w'.cell? ⟨B, 0, none⟩ = some (.string s) ∧ w'.cell? ⟨B, 1, none⟩ = some (.int .i64 (x : Int))) ∧ (w'.cell? ⟨BY, 0, none⟩ = some (.string t) ∧ w'.cell? ⟨BY, 1, none⟩ = some (.int .i64 (y : Int)))) := (by rw [hW0]; exact fun w' g => ⟨(bx.kept g (by simp)).two, (by'.kept g (by simp)).two⟩)
      have HW0 : Hid (W0 = wc) := hW0
      clear hW0
      go_region_held3 (fun w' => (w'.cell? ⟨B, 0, none⟩ = some (.string s) ∧ w'.cell? ⟨B, 1, none⟩ = some (.int .i64 (x : Int))) ∧ (w'.cell? ⟨BY, 0, none⟩ = some (.string t) ∧ w'.cell? ⟨BY, 1, none⟩ = some (.int .i64 (y : Int)))) (first | exact SK.out _ gg | exact SK.out _ (gg.alloc _) | exact SK.out _ (gg.put2 zl.out _ _))
        ((first | (go_at_call_of 12 s; refine (len_any _ s x).mono ?_; rintro e w5 ⟨rfl, f5⟩; (first | (replace gg := gg.trans f5; (try replace zb := zb.kept f5 (by simp)); (try replace hbyA := hbyA.kept f5 (by simp)); (try replace hbyB := hbyB.kept f5 (by simp))) | (obtain ⟨zb, gg', zl'⟩ := allocdD gg f5; have zl : Hid (W0.heap.size ≤ _) := zl'; replace gg := gg'; (try replace hbyA := hbyA.allocd f5); (try replace hbyB := hbyB.allocd f5)) | (obtain ⟨zb, gg', zl'⟩ := allocd gg f5; have zl : Hid (W0.heap.size ≤ _) := zl'; replace gg := gg'; (try replace hbyA := hbyA.allocd f5); (try replace hbyB := hbyB.allocd f5))); (try (have z0 := zb.c0; have z1 : World.cell? _ _ = some (.int .i64 0) := zb.c1; have z2 := zb.fz 0; have z3 := zb.fz 1))) | (go_at_call_of 12 t; refine (len_any _ t y).mono ?_; rintro e w5 ⟨rfl, f5⟩; (first | (replace gg := gg.trans f5; (try replace zb := zb.kept f5 (by simp)); (try replace hbyA := hbyA.kept f5 (by simp)); (try replace hbyB := hbyB.kept f5 (by simp))) | (obtain ⟨zb, gg', zl'⟩ := allocdD gg f5; have zl : Hid (W0.heap.size ≤ _) := zl'; replace gg := gg'; (try replace hbyA := hbyA.allocd f5); (try replace hbyB := hbyB.allocd f5)) | (obtain ⟨zb, gg', zl'⟩ := allocd gg f5; have zl : Hid (W0.heap.size ≤ _) := zl'; replace gg := gg'; (try replace hbyA := hbyA.allocd f5); (try replace hbyB := hbyB.allocd f5))); (try (have z0 := zb.c0; have z1 : World.cell? _ _ = some (.int .i64 0) := zb.c1; have z2 := zb.fz 0; have z3 := zb.fz 1))) | (go_at_call 18; refine (cut_in _ t y 0 x x q ht (by omega) (by omega)).mono ?_; rw [List.drop_zero]; rintro e w5 ⟨d, rfl, hd, f5⟩; (first | (replace gg := gg.trans f5; (try replace zb := zb.kept f5 (by simp)); (try replace hbyA := hbyA.kept f5 (by simp)); (try replace hbyB := hbyB.kept f5 (by simp))) | (obtain ⟨zb, gg', zl'⟩ := allocdD gg f5; have zl : Hid (W0.heap.size ≤ _) := zl'; replace gg := gg'; (try replace hbyA := hbyA.allocd f5); (try replace hbyB := hbyB.allocd f5)) | (obtain ⟨zb, gg', zl'⟩ := allocd gg f5; have zl : Hid (W0.heap.size ≤ _) := zl'; replace gg := gg'; (try replace hbyA := hbyA.allocd f5); (try replace hbyB := hbyB.allocd f5))); (try (have z0 := zb.c0; have z1 : World.cell? _ _ = some (.int .i64 0) := zb.c1; have z2 := zb.fz 0; have z3 := zb.fz 1)))))
      all_goals go_wp2
      all_goals go_meet
      all_goals (have HW := HW0.out; subst HW)
      all_goals rw [HMx.out]
      all_goals (first | exact ⟨_, d, rfl, Box.new _ d x, hd, gg.alloc _⟩ | exact ⟨_, d, rfl, zb.put d x, hd, gg.put2 zl.out _ _⟩)
    · have hMx : M = y := by have := HM.out; omega
      have hi : (y : Int) < (x : Int) := by omega
      have HMx : Hid (M = y) := hMx
      clear hMx
      obtain ⟨W0, hW0⟩ : ∃ W0, W0 = wc := ⟨_, rfl⟩
      have gg : Fr [] W0 wc.drew := (by rw [hW0]; exact (Fr.refl _ _).drew)
      have SK : Hid (∀ w', Fr [] W0 w' → (w'.cell? ⟨B, 0, none⟩ = some (.string s) ∧ w'.cell? ⟨B, 1, none⟩ = some (.int .i64 (x : Int))) ∧ (w'.cell? ⟨BY, 0, none⟩ = some (.string t) ∧ w'.cell? ⟨BY, 1, none⟩ = some (.int .i64 (y : Int)))) := (by rw [hW0]; exact fun w' g => ⟨(bx.kept g (by simp)).two, (by'.kept g (by simp)).two⟩)
      have HW0 : Hid (W0 = wc) := hW0
      clear hW0
      go_region_held3 (fun w' => (w'.cell? ⟨B, 0, none⟩ = some (.string s) ∧ w'.cell? ⟨B, 1, none⟩ = some (.int .i64 (x : Int))) ∧ (w'.cell? ⟨BY, 0, none⟩ = some (.string t) ∧ w'.cell? ⟨BY, 1, none⟩ = some (.int .i64 (y : Int)))) (first | exact SK.out _ gg | exact SK.out _ (gg.alloc _) | exact SK.out _ (gg.put2 zl.out _ _))
        ((first | (go_at_call_of 12 s; refine (len_any _ s x).mono ?_; rintro e w5 ⟨rfl, f5⟩; (first | (replace gg := gg.trans f5; (try replace zb := zb.kept f5 (by simp)); (try replace hbyA := hbyA.kept f5 (by simp)); (try replace hbyB := hbyB.kept f5 (by simp))) | (obtain ⟨zb, gg', zl'⟩ := allocdD gg f5; have zl : Hid (W0.heap.size ≤ _) := zl'; replace gg := gg'; (try replace hbyA := hbyA.allocd f5); (try replace hbyB := hbyB.allocd f5)) | (obtain ⟨zb, gg', zl'⟩ := allocd gg f5; have zl : Hid (W0.heap.size ≤ _) := zl'; replace gg := gg'; (try replace hbyA := hbyA.allocd f5); (try replace hbyB := hbyB.allocd f5))); (try (have z0 := zb.c0; have z1 : World.cell? _ _ = some (.int .i64 0) := zb.c1; have z2 := zb.fz 0; have z3 := zb.fz 1))) | (go_at_call_of 12 t; refine (len_any _ t y).mono ?_; rintro e w5 ⟨rfl, f5⟩; (first | (replace gg := gg.trans f5; (try replace zb := zb.kept f5 (by simp)); (try replace hbyA := hbyA.kept f5 (by simp)); (try replace hbyB := hbyB.kept f5 (by simp))) | (obtain ⟨zb, gg', zl'⟩ := allocdD gg f5; have zl : Hid (W0.heap.size ≤ _) := zl'; replace gg := gg'; (try replace hbyA := hbyA.allocd f5); (try replace hbyB := hbyB.allocd f5)) | (obtain ⟨zb, gg', zl'⟩ := allocd gg f5; have zl : Hid (W0.heap.size ≤ _) := zl'; replace gg := gg'; (try replace hbyA := hbyA.allocd f5); (try replace hbyB := hbyB.allocd f5))); (try (have z0 := zb.c0; have z1 : World.cell? _ _ = some (.int .i64 0) := zb.c1; have z2 := zb.fz 0; have z3 := zb.fz 1))) | (go_at_call 18; refine (cut_in _ t y 0 y y q ht (by omega) (by omega)).mono ?_; rw [List.drop_zero]; rintro e w5 ⟨d, rfl, hd, f5⟩; (first | (replace gg := gg.trans f5; (try replace zb := zb.kept f5 (by simp)); (try replace hbyA := hbyA.kept f5 (by simp)); (try replace hbyB := hbyB.kept f5 (by simp))) | (obtain ⟨zb, gg', zl'⟩ := allocdD gg f5; have zl : Hid (W0.heap.size ≤ _) := zl'; replace gg := gg'; (try replace hbyA := hbyA.allocd f5); (try replace hbyB := hbyB.allocd f5)) | (obtain ⟨zb, gg', zl'⟩ := allocd gg f5; have zl : Hid (W0.heap.size ≤ _) := zl'; replace gg := gg'; (try replace hbyA := hbyA.allocd f5); (try replace hbyB := hbyB.allocd f5))); (try (have z0 := zb.c0; have z1 : World.cell? _ _ = some (.int .i64 0) := zb.c1; have z2 := zb.fz 0; have z3 := zb.fz 1)))))
      all_goals go_wp2
      all_goals go_meet
      all_goals (have HW := HW0.out; subst HW)
      all_goals rw [HMx.out]
      all_goals (first | exact ⟨_, d, rfl, Box.new _ d y, hd, gg.alloc _⟩ | exact ⟨_, d, rfl, zb.put d y, hd, gg.put2 zl.out _ _⟩)
  obtain ⟨BD, d, rfl, bd, hd, f6⟩ := hcut
  replace bx := bx.kept f6 (by simp)
  replace by' := by'.kept f6 (by simp)
  replace bc := bc.kept f6 (by simp)
  replace g4 := g4.trans f6
  clear f6
  have p0 := bc.c0
  have p1 := bc.c1
  have p2 := bd.c0
  have p3 := bd.c1
  go_wp2_with fail
  refine (compare_any _ c d M M _ _ hc hd).mono ?_
  by_cases hz : stand (r.take M) (q.take M) = 0
  · rw [hz]
    rintro e w9 ⟨rfl, f9⟩
    clear p0 p1 p2 p3
    go_wp2_with fail
    go_ret
    exact ⟨rfl, g4.trans f9⟩
  · have HL : Hid (compareBytes (bl s) (bl t) = stand r q) := (keep_last hs ht M HM.out hz).symm
    obtain ⟨v, hv⟩ : ∃ v, stand (r.take M) (q.take M) = v := ⟨_, rfl⟩
    rw [hv] at hz ⊢
    have hz2 : (v == 0) = false := by simpa using hz
    rintro e w9 ⟨rfl, f9⟩
    replace bx := bx.kept f9 (by simp)
    replace by' := by'.kept f9 (by simp)
    replace g4 := g4.trans f9
    obtain ⟨KT, hKT⟩ : ∃ K, (bl t).length = K := ⟨_, rfl⟩
    have HKT : Hid ((bl t).length = KT) := hKT
    have htz : t.size ≤ 16777216 := by rw [ht.size]; omega
    have hK2 : KT < 9223372036854775808 := by rw [bl_length] at hKT; omega
    clear p0 p1 p2 p3 hv hz f9 hKT bc bd hc hd
    go_wp2_with fail
    as_aux_lemma =>
      obtain ⟨W0, hW0⟩ : ∃ W0, W0 = w9 := ⟨_, rfl⟩
      have gg : Fr [] W0 w9.drew := (by rw [hW0]; exact (Fr.refl _ _).drew)
      have SK : Hid (∀ w', Fr [] W0 w' → (w'.cell? ⟨B, 0, none⟩ = some (.string s) ∧ w'.cell? ⟨B, 1, none⟩ = some (.int .i64 (x : Int))) ∧ (w'.cell? ⟨BY, 0, none⟩ = some (.string t) ∧ w'.cell? ⟨BY, 1, none⟩ = some (.int .i64 (y : Int)))) := (by rw [hW0]; exact fun w' g => ⟨(bx.kept g (by simp)).two, (by'.kept g (by simp)).two⟩)
      have HW0 : Hid (W0 = w9) := hW0
      clear hW0
      go_region_held3 (fun w' => (w'.cell? ⟨B, 0, none⟩ = some (.string s) ∧ w'.cell? ⟨B, 1, none⟩ = some (.int .i64 (x : Int))) ∧ (w'.cell? ⟨BY, 0, none⟩ = some (.string t) ∧ w'.cell? ⟨BY, 1, none⟩ = some (.int .i64 (y : Int)))) (first | exact SK.out _ gg | exact SK.out _ (gg.alloc _) | exact SK.out _ (gg.put2 zl.out _ _))
        ((first | (go_at_call_of 27 (#[Value.agg #[Value.string s, Value.int IntKind.i64 (x : Int)], Value.agg #[Value.string t, Value.int IntKind.i64 (y : Int)]]); refine (compare_any _ s t x y r q hs ht).mono ?_; rintro e w5 ⟨rfl, f5⟩; (first | (replace gg := gg.trans f5; (try replace zb := zb.kept f5 (by simp)); (try replace hbyA := hbyA.kept f5 (by simp)); (try replace hbyB := hbyB.kept f5 (by simp))) | (obtain ⟨zb, gg', zl'⟩ := allocdD gg f5; have zl : Hid (W0.heap.size ≤ _) := zl'; replace gg := gg'; (try replace hbyA := hbyA.allocd f5); (try replace hbyB := hbyB.allocd f5)) | (obtain ⟨zb, gg', zl'⟩ := allocd gg f5; have zl : Hid (W0.heap.size ≤ _) := zl'; replace gg := gg'; (try replace hbyA := hbyA.allocd f5); (try replace hbyB := hbyB.allocd f5))); (try (have z0 := zb.c0; have z1 : World.cell? _ _ = some (.int .i64 0) := zb.c1; have z2 := zb.fz 0; have z3 := zb.fz 1))) | (go_at_call_of 20 s; refine (pack_any _ s x hsz).mono ?_; rintro e w5 ⟨pv, rfl, hp, f5⟩; (first | (replace gg := gg.trans f5; (try replace zb := zb.kept f5 (by simp)); (try replace hbyA := hbyA.kept f5 (by simp)); (try replace hbyB := hbyB.kept f5 (by simp))) | (obtain ⟨zb, gg', zl'⟩ := allocdD gg f5; have zl : Hid (W0.heap.size ≤ _) := zl'; replace gg := gg'; (try replace hbyA := hbyA.allocd f5); (try replace hbyB := hbyB.allocd f5)) | (obtain ⟨zb, gg', zl'⟩ := allocd gg f5; have zl : Hid (W0.heap.size ≤ _) := zl'; replace gg := gg'; (try replace hbyA := hbyA.allocd f5); (try replace hbyB := hbyB.allocd f5))); (try (have z0 := zb.c0; have z1 : World.cell? _ _ = some (.int .i64 0) := zb.c1; have z2 := zb.fz 0; have z3 := zb.fz 1)); obtain ⟨adA, capA, hv, hbyA, hlo, hpl⟩ := hp.bytes; rw [HK.out] at hv; subst hv; have plA : Hid (Plain adA) := (by rcases Nat.eq_zero_or_pos (bl s).length with hh | hh; exact hpl hh; (obtain ⟨b0, o0, e0, _⟩ := hbyA.at 0 hh); exact Or.inr ⟨b0, o0, e0⟩); clear hlo hpl hp) | (go_at_call_of 20 t; refine (pack_any _ t y htz).mono ?_; rintro e w5 ⟨pv, rfl, hp, f5⟩; (first | (replace gg := gg.trans f5; (try replace zb := zb.kept f5 (by simp)); (try replace hbyA := hbyA.kept f5 (by simp)); (try replace hbyB := hbyB.kept f5 (by simp))) | (obtain ⟨zb, gg', zl'⟩ := allocdD gg f5; have zl : Hid (W0.heap.size ≤ _) := zl'; replace gg := gg'; (try replace hbyA := hbyA.allocd f5); (try replace hbyB := hbyB.allocd f5)) | (obtain ⟨zb, gg', zl'⟩ := allocd gg f5; have zl : Hid (W0.heap.size ≤ _) := zl'; replace gg := gg'; (try replace hbyA := hbyA.allocd f5); (try replace hbyB := hbyB.allocd f5))); (try (have z0 := zb.c0; have z1 : World.cell? _ _ = some (.int .i64 0) := zb.c1; have z2 := zb.fz 0; have z3 := zb.fz 1)); obtain ⟨adB, capB, hv, hbyB, hlo, hpl⟩ := hp.bytes; rw [HKT.out] at hv; subst hv; have plB : Hid (Plain adB) := (by rcases Nat.eq_zero_or_pos (bl t).length with hh | hh; exact hpl hh; (obtain ⟨b0, o0, e0, _⟩ := hbyB.at 0 hh); exact Or.inr ⟨b0, o0, e0⟩); clear hlo hpl hp) | (go_at_call 33; refine (sign_any _ adA adB K KT capA capB (bl s) (bl t) HK.out HKT.out hbyA hbyB hK1 hK2).mono ?_; rw [HL.out]; rintro e w5 ⟨rfl, f5⟩; (first | (replace gg := gg.trans f5; (try replace zb := zb.kept f5 (by simp)); (try replace hbyA := hbyA.kept f5 (by simp)); (try replace hbyB := hbyB.kept f5 (by simp))) | (obtain ⟨zb, gg', zl'⟩ := allocdD gg f5; have zl : Hid (W0.heap.size ≤ _) := zl'; replace gg := gg'; (try replace hbyA := hbyA.allocd f5); (try replace hbyB := hbyB.allocd f5)) | (obtain ⟨zb, gg', zl'⟩ := allocd gg f5; have zl : Hid (W0.heap.size ≤ _) := zl'; replace gg := gg'; (try replace hbyA := hbyA.allocd f5); (try replace hbyB := hbyB.allocd f5))); (try (have z0 := zb.c0; have z1 : World.cell? _ _ = some (.int .i64 0) := zb.c1; have z2 := zb.fz 0; have z3 := zb.fz 1)))))
      all_goals (have HW := HW0.out; subst HW)
      all_goals go_wp2_with fail
      all_goals go_ret
      all_goals exact ⟨by simp, g4.trans gg⟩

end Go.Proofs.Ytdkleigkkndecaa

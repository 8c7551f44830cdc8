/-
  The document's own Put.
-/
import Derived.Test.YticmjdblcomecaaQRefR2
import Derived.Test.YticmjdblcomecaaQRefS
import Derived.Test.YticmjdblcomecaaQPutR
namespace Go.Proofs.Yticmjdblcomecaa
open Go.RowKit Go.Maps

set_option maxHeartbeats 400000 in
set_option maxRecDepth 100000 in
theorem rPut_no (w : World) (r : Rec) (s : Spots) (hnn : r.new.length ≤ 1000000) (hr : rightB r = false) :
    Calls Try.prog 9 #[.agg (recV r s)] w fun e w' => e = .returned (.tuple #[.slice none 0 0, .int .i64 4]) ∧ Fr [] w w' := by
  have f1 : Fr [] w (w.alloc (.cells (recV r s) 27)) := (Fr.refl [] w).alloc _
  have hR := rright_any (w.alloc (.cells (recV r s) 27)) r s hnn
  rw [hr] at hR
  unfold recV at f1 hR
  unfold recV
  go_enter Try.func9, Try.ntmps9
  go_wp2_with fail
  refine hR.mono ?_
  rintro e w2 ⟨rfl, f2⟩
  go_wp2_with fail
  go_ret2
  exact ⟨rfl, f1.trans f2⟩

theorem own_made0 (w : World) : Own w (w.alloc (.cells #[] 5)) (.slice (some ⟨w.heap.size, 0, none⟩) 0 0) 0 [] :=
  ⟨⟨rfl, Or.inr ⟨w.heap.size, 0, #[], rfl, Nat.le_refl _, heap_alloc_new w _, Nat.le_refl _, by unfold maxLen; omega, rfl, rfl⟩⟩, (Fr.refl [] w).alloc _⟩

theorem beK_one (x : Nat) : beK 1 x = [UInt8.ofNat x] := by simp [beK]

theorem rcells {w : World} {b : Nat} {r : Rec} {s : Spots} (h : RBox w b r s) {w' : World} (f : Fr [] w w') :
    w'.cell? ⟨b, 0, none⟩ = some (.int .i64 r.lsn) ∧ w'.cell? ⟨b, 1, none⟩ = some (.int .i64 r.turn) ∧ w'.cell? ⟨b, 2, none⟩ = some (.int .u8 (r.kind : Int)) ∧ w'.cell? ⟨b, 3, none⟩ = some (.int .i64 r.tx) ∧ w'.cell? ⟨b, 4, none⟩ = some (.int .i64 r.prev) ∧ w'.cell? ⟨b, 5, none⟩ = some (.int .i64 r.next) ∧
    w'.cell? ⟨b, 6, none⟩ = some (.int .i64 r.block) ∧ w'.cell? ⟨b, 7, none⟩ = some (.int .i64 r.off) ∧ w'.cell? ⟨b, 8, none⟩ = some (.slice s.a1 r.old.length s.c1) ∧ w'.cell? ⟨b, 9, none⟩ = some (.slice s.a2 r.new.length s.c2) := by
  have h' := h.kept f (by simp)
  exact ⟨h'.c0, h'.c1, h'.c2, h'.c3, h'.c4, h'.c5, h'.c6, h'.c7, h'.c8, h'.c9⟩

set_option maxHeartbeats 400000 in
set_option maxRecDepth 100000 in
theorem rPut_none (w : World) (r : Rec) (s : Spots) (hr : rightB r = true) (hkk : r.kind < 256) (q2 : ((r.kind : Int) == 2) = false) (q1 : ((r.kind : Int) == 1) = false) (hb : bodyL r = b3L r) (hnn : r.new.length ≤ 1000000) :
    Calls Try.prog 9 #[.agg (recV r s)] w fun e w' => ∃ v, e = .returned (.tuple #[v, .int .i64 0]) ∧ Own w w' v (encL r).length (arr (encL r)).toList := by
  obtain ⟨l0, l1, t0, t1, ht, hp, -⟩ := right_facts hr
  unfold placeB at ht hp
  simp only [Bool.and_eq_true, decide_eq_true_eq] at ht hp
  have hk0 : (0 : Int) ≤ (r.kind : Int) := by omega
  have hk1 : (r.kind : Int) < 256 := by omega
  have f1 : Fr [] w (w.alloc (.cells (recV r s) 27)) := (Fr.refl [] w).alloc _
  have rb : RBox (w.alloc (.cells (recV r s) 27)) w.heap.size r s := heap_alloc_new w _
  have hR := rright_any (w.alloc (.cells (recV r s) 27)) r s hnn
  rw [hr] at hR
  unfold recV at f1 hR
  unfold RBox recV at rb
  unfold recV
  go_enter Try.func9, Try.ntmps9
  go_wp2_with fail
  refine hR.mono ?_
  rintro e w2 ⟨rfl, f2⟩
  have rb2 : RBox w2 w.heap.size r s := f2.same (by simp) rb
  have ff := f1.trans f2
  obtain ⟨B, HB⟩ : ∃ B, Hid (w.heap.size = B) := ⟨_, rfl⟩
  rw [HB.out] at rb2 ⊢
  clear hR rb f1 f2
  obtain ⟨x0, x1, x2, x3, x4, x5, -, -, -, -⟩ := rcells rb2 (Fr.refl [] w2)
  go_wp2_with (refine wp_app rfl _ _ rfl w2 (.slice none 0 0) 0 [] rfl ⟨World.ownsRow_nil _ _ 5 1, (Fr.refl [] w2).alloc _⟩ _ 1 _ [UInt8.ofNat (r.kind : Int).toNat] rfl rfl (oneByte (r.kind : Int) hk0 hk1 w2) (by omega) (fun h => absurd h (by omega)) ?_; intro v3 w3 o3; clear x0 x1 x2 x3 x4 x5; obtain ⟨x0, x1, x2, x3, x4, x5, -, -, -, -⟩ := rcells rb2 o3.2)
  refine (rput_any w2 _ v3 (0 + 1) 8 [UInt8.ofNat (r.kind : Int).toNat] r.tx.toNat r.tx (by omega) (by omega) (by omega) rfl (by omega) (by simpa using o3)).mono ?_
  rintro e w4 ⟨v4, rfl, o4⟩
  clear x0 x1 x2 x3 x4 x5
  obtain ⟨x0, x1, x2, x3, x4, x5, -, -, -, -⟩ := rcells rb2 o4.2
  go_wp2_with fail
  refine (rput_any w2 _ v4 (0 + 1 + 8) 8 _ r.prev.toNat r.prev (by omega) (by omega) (by omega) (by simp [beK_length]) (by omega) o4).mono ?_
  rintro e w5 ⟨v5, rfl, o5⟩
  have e5 : [UInt8.ofNat (r.kind : Int).toNat] ++ beK 8 r.tx.toNat ++ beK 8 r.prev.toNat = bodyL r := by rw [hb]; simp [b3L, beK]
  rw [e5] at o5
  clear e5 o3 o4
  obtain ⟨N, HN⟩ : ∃ N, Hid ((bodyL r).length = N) := ⟨_, rfl⟩
  replace o5 := own_len (m := N) o5 (by rw [← HN.out, hb, b3L_length])
  obtain ⟨n0, n1⟩ := body_bounds hr
  rw [HN.out] at n0 n1
  obtain ⟨gb, cb, rfl, hbb, hgb, -⟩ := own_at o5 (by omega) HN.out
  clear x0 x1 x2 x3 x4 x5
  obtain ⟨x0, x1, x2, x3, x4, x5, -, -, -, -⟩ := rcells rb2 o5.2
  go_wp2_with fail
  refine (rput_any w5 _ (.slice none 0 0) 0 8 [] r.lsn.toNat r.lsn (by omega) (by omega) (by omega) rfl (by omega) (own_nil ⟨World.ownsRow_nil _ _ 5 1, Fr.refl _ _⟩)).mono ?_
  rintro e w6 ⟨v6, rfl, o6⟩
  clear x0 x1 x2 x3 x4 x5
  obtain ⟨x0, x1, x2, x3, x4, x5, -, -, -, -⟩ := rcells rb2 (o5.2.trans o6.2)
  go_wp2_with fail
  refine (rput_any w5 _ v6 (0 + 8) 4 _ r.turn.toNat r.turn (by omega) (by omega) (by omega) (by simp [beK_length]) (by omega) o6).mono ?_
  rintro e w7 ⟨v7, rfl, o7⟩
  clear x0 x1 x2 x3 x4 x5
  go_wp2_with fail
  refine (rput_any w5 _ v7 (0 + 8 + 4) 2 _ N (N : Int) rfl (by omega) (by omega) (by simp [beK_length]) (by omega) o7).mono ?_
  rintro e w8 ⟨v8, rfl, o8⟩
  have eh : [] ++ beK 8 r.lsn.toNat ++ beK 4 r.turn.toNat ++ beK 2 N = headL r := by rw [← HN.out]; rfl
  rw [eh] at o8
  replace o8 := own_len (m := 14) o8 rfl
  obtain ⟨g8, c8, rfl, hb8, hg8, -⟩ := own_at o8 (by omega) (headL_length r)
  clear eh o6 o7
  go_wp2_with (first
    | (refine wp_app rfl _ _ rfl w8 _ 0 [] rfl (own_made0 w8) (some ⟨g8, 0, none⟩) 14 c8 (headL r) rfl (headL_length r) (hb8.kept ((Fr.refl [] w8).alloc _) (by simp)) (by omega) (fun h => ⟨_, rfl⟩) ?_; intro v9 w9 o9)
    | (refine wp_app rfl _ _ rfl w8 v9 (0 + 14) _ rfl o9 (some ⟨gb, 0, none⟩) N cb (bodyL r) rfl HN.out (hbb.kept (o8.2.trans o9.2) (by simp)) (by omega) (fun h => ⟨_, rfl⟩) ?_; intro v10 w10 o10; clear o9))
  rw [List.nil_append, arr_append] at o10
  obtain ⟨g10, c10, rfl, hb10, -, -⟩ := own_at o10 (by omega) (by have := HN.out; simp [headL_length]; omega)
  refine (rsum_any _ _ (0 + 14 + N) c10 (headL r ++ bodyL r) (by have := HN.out; simp [headL_length]; omega) hb10 (by omega)).mono ?_
  rintro e w11 ⟨rfl, hw⟩
  subst hw
  obtain ⟨C, HC, hC⟩ : ∃ C : Nat, Hid (crc (headL r ++ bodyL r) = C) ∧ C < 4294967296 := ⟨_, rfl, crc_lt _⟩
  rw [HC.out]
  have hwC : IntKind.i64.wrap (C : Int) = (C : Int) := by simp [IntKind.wrap, IntKind.signed, IntKind.bits]; omega
  replace o8 := o8.kept o10.2
  clear hb8 hb10
  go_wp2_with fail
  refine (rput_any w5 _ _ 14 4 (headL r) C _ rfl (by omega) (by omega) (headL_length r) (by omega) o8).mono ?_
  rintro e w12 ⟨v12, rfl, o12⟩
  go_wp2_with (refine wp_app rfl _ _ rfl w5 v12 (14 + 4) _ rfl o12 (some ⟨gb, 0, none⟩) N cb (bodyL r) rfl HN.out (hbb.kept o12.2 (by simp)) (by omega) (fun h => ⟨_, rfl⟩) ?_; intro vA wA oA)
  go_ret2
  rw [arr_append] at oA
  refine ⟨_, rfl, own_base ?_ (ff.trans o5.2)⟩
  have el : encL r = headL r ++ beK 4 C ++ bodyL r := by rw [← HC.out]; rfl
  rw [el]
  exact own_len oA (by rw [← el, encL_length, HN.out])

end Go.Proofs.Yticmjdblcomecaa

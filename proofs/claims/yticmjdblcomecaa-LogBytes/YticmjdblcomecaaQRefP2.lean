/-
  The document's own Put, where a span is carried.
-/
import Derived.Test.YticmjdblcomecaaQRefP
import Derived.Deep.RegionLaw
namespace Go.Proofs.Yticmjdblcomecaa
open Go.RowKit Go.Maps

theorem run_appB (ty : TypeId) {w : World} (w0 : World) (g n cap : Nat) (xs : List Value) (hown : Own w0 w (.slice (some ⟨g, 0, none⟩) n cap) n xs) (ad : Option Addr) (m c : Nat) (l : List UInt8) (hl : l.length = m) (hsrc : BytesAt w ad l) (hm : n + m ≤ 1000000) (hn : 0 < n) (hne : ad = none → m = 0 ∧ c = 0) :
    ∃ g' cap' w', (Builtin.append_ #[23, 23] ty #[.slice (some ⟨g, 0, none⟩) n cap, .slice ad m c]).run Try.prog w = .ok (.slice (some ⟨g', 0, none⟩) (n + m) cap') w' ∧ Own w0 w' (.slice (some ⟨g', 0, none⟩) (n + m) cap') (n + m) (xs ++ (arr l).toList) := by
  obtain ⟨i, hi, hz, hsz, hb⟩ := info5'
  cases ad with
  | none =>
    obtain ⟨rfl, rfl⟩ := hne rfl
    have e0 : l = [] := List.eq_nil_of_length_eq_zero hl
    subst e0
    exact ⟨g, cap, w, run_append_owned_none (P := Try.prog) (w := w) w0.heap.size 23 ty 5 i 1 Try.underlying23 hi _ n xs hown.1, by simpa [arr] using hown⟩
  | some a0 =>
    obtain ⟨v', w', hrun, o'⟩ := run_app ty w0 _ n xs hown (some a0) m c l hl hsrc hm (fun _ => ⟨_, rfl⟩)
    rcases o'.1.2 with ⟨rfl, h0⟩ | ⟨g', cap', cur, rfl, _⟩
    · omega
    · exact ⟨g', cap', w', hrun, o'⟩
section
variable {ops : Array Oper} {rest : List Oper} {o : Oper} {a : Act} {w : World} {Q : Exit → Act → World → Prop}
/-- append of bytes, as a step of a region that draws its order. -/
theorem step_appB {K : Act → World → Prop} {X : Prop} (hgd : o.guard = none) (s x : Operand) (ho : o.op = .call { callee := .builtin .append, args := #[s, x], argTypes := #[23, 23] }) (w0 : World) (g n cap : Nat) (xs : List Value) (hs : a.eval s = .slice (some ⟨g, 0, none⟩) n cap) (hown : Own w0 w (.slice (some ⟨g, 0, none⟩) n cap) n xs)
    (ad : Option Addr) (m c : Nat) (l : List UInt8) (hx : a.eval x = .slice ad m c) (hl : l.length = m) (hsrc : BytesAt w ad l) (hm : n + m ≤ 1000000) (hn : 0 < n) (hne : ad = none → m = 0 ∧ c = 0)
    (h : ∀ g' cap' w', Own w0 w' (.slice (some ⟨g', 0, none⟩) (n + m) cap') (n + m) (xs ++ (arr l).toList) → K (a.put o.dst (.slice (some ⟨g', 0, none⟩) (n + m) cap')) w') :
    if Region.wanted o (yielded ops a.tmps) = true then Oper.wp Try.prog o a w K Q else X := by
  have hw : Region.wanted o (yielded ops a.tmps) = true := by simp [Region.wanted, hgd]
  rw [if_pos hw]
  obtain ⟨g', cap', w', hrun, o'⟩ := run_appB o.type w0 g n cap xs hown ad m c l hl hsrc hm hn hne
  unfold Oper.wp
  simp [execOp, ho, resolve, invoke, builtin, hs, hx, hrun, Result.andThen]
  exact h _ _ _ o'
end

set_option maxHeartbeats 400000 in
set_option maxRecDepth 100000 in
theorem rPut_one (w : World) (r : Rec) (s : Spots) (hs : SpotsAt w r s) (hr : rightB r = true) (hkk : r.kind < 256) (hb0 : 0 ≤ r.block) (hb1 : r.block < 65536) (ho0 : 0 ≤ r.off) (ho1 : r.off ≤ 512) (hno : r.old.length ≤ 1000) (hn1 : r.new.length ≤ 1000) (q2 : ((r.kind : Int) == 2) = false) (q1 : ((r.kind : Int) == 1) = true) (hb : bodyL r = b3L r ++ beK 4 r.block.toNat ++ beK 2 r.off.toNat ++ beK 2 r.new.length ++ r.old ++ r.new) (hnn : r.new.length ≤ 1000000) :
    Calls Try.prog 9 #[.agg (recV r s)] w fun e w' => ∃ v, e = .returned (.tuple #[v, .int .i64 0]) ∧ Own w w' v (encL r).length (arr (encL r)).toList := by
  obtain ⟨l0, l1, t0, t1, ht, hp, -⟩ := right_facts hr
  unfold placeB at ht hp
  simp only [Bool.and_eq_true, decide_eq_true_eq] at ht hp
  have hk0 : (0 : Int) ≤ (r.kind : Int) := by omega
  have hk1 : (r.kind : Int) < 256 := by omega
  have f1 : Fr [] w (w.alloc (.cells (recV r s) 27)) := (Fr.refl [] w).alloc _
  have rb : RBox (w.alloc (.cells (recV r s) 27)) w.heap.size r s := heap_alloc_new w _
  have hR := rright_any (w.alloc (.cells (recV r s) 27)) r s hnn
  rw [hr] at hR
  unfold recV at f1 hR
  unfold RBox recV at rb
  unfold recV
  go_enter Try.func9, Try.ntmps9
  go_wp2_with fail
  refine hR.mono ?_
  rintro e w2 ⟨rfl, f2⟩
  have rb2 : RBox w2 w.heap.size r s := f2.same (by simp) rb
  have ff := f1.trans f2
  obtain ⟨B, HB⟩ : ∃ B, Hid (w.heap.size = B) := ⟨_, rfl⟩
  rw [HB.out] at rb2 ⊢
  clear hR rb f1 f2
  obtain ⟨x0, x1, x2, x3, x4, x5, x6, x7, x8, x9⟩ := rcells rb2 (Fr.refl [] w2)
  go_wp2_with (refine wp_app rfl _ _ rfl w2 (.slice none 0 0) 0 [] rfl ⟨World.ownsRow_nil _ _ 5 1, (Fr.refl [] w2).alloc _⟩ _ 1 _ [UInt8.ofNat (r.kind : Int).toNat] rfl rfl (oneByte (r.kind : Int) hk0 hk1 w2) (by omega) (fun h => absurd h (by omega)) ?_; intro v3 w3 o3; clear x0 x1 x2 x3 x4 x5 x6 x7 x8 x9; obtain ⟨x0, x1, x2, x3, x4, x5, x6, x7, x8, x9⟩ := rcells rb2 o3.2)
  refine (rput_any w2 _ v3 (0 + 1) 8 [UInt8.ofNat (r.kind : Int).toNat] r.tx.toNat r.tx (by omega) (by omega) (by omega) rfl (by omega) (by simpa using o3)).mono ?_
  rintro e w4 ⟨v4, rfl, o4⟩
  clear x0 x1 x2 x3 x4 x5 x6 x7 x8 x9
  obtain ⟨x0, x1, x2, x3, x4, x5, x6, x7, x8, x9⟩ := rcells rb2 o4.2
  go_wp2_with fail
  refine (rput_any w2 _ v4 (0 + 1 + 8) 8 _ r.prev.toNat r.prev (by omega) (by omega) (by omega) (by simp [beK_length]) (by omega) o4).mono ?_
  rintro e w5 ⟨v5, rfl, o5⟩
  clear x0 x1 x2 x3 x4 x5 x6 x7 x8 x9
  obtain ⟨x0, x1, x2, x3, x4, x5, x6, x7, x8, x9⟩ := rcells rb2 o5.2
  go_wp2_with fail
  refine (rput_any w2 _ v5 (0 + 1 + 8 + 8) 4 _ r.block.toNat r.block (by omega) (by omega) (by omega) (by simp [beK_length]) (by omega) o5).mono ?_
  rintro e wq0 ⟨vq0, rfl, oq0⟩
  clear x0 x1 x2 x3 x4 x5 x6 x7 x8 x9
  obtain ⟨x0, x1, x2, x3, x4, x5, x6, x7, x8, x9⟩ := rcells rb2 oq0.2
  go_wp2_with fail
  refine (rput_any w2 _ vq0 ((0 + 1 + 8 + 8) + 4) 2 _ r.off.toNat r.off (by omega) (by omega) (by omega) (by simp [beK_length]) (by omega) oq0).mono ?_
  rintro e wq1 ⟨vq1, rfl, oq1⟩
  clear x0 x1 x2 x3 x4 x5 x6 x7 x8 x9
  obtain ⟨x0, x1, x2, x3, x4, x5, x6, x7, x8, x9⟩ := rcells rb2 oq1.2
  go_wp2_with fail
  refine (rput_any w2 _ vq1 (((0 + 1 + 8 + 8) + 4) + 2) 2 _ r.new.length (r.new.length : Int) (by omega) (by omega) (by omega) (by simp [beK_length]) (by omega) oq1).mono ?_
  rintro e wq2 ⟨vq2, rfl, oq2⟩
  clear x0 x1 x2 x3 x4 x5 x6 x7 x8 x9
  obtain ⟨x0, x1, x2, x3, x4, x5, x6, x7, x8, x9⟩ := rcells rb2 oq2.2
  obtain ⟨gq, cq, rfl, -, -, -⟩ := own_at oq2 (by omega) (by simp [beK_length])
  have hsb := hs.kept (ff.trans oq2.2)
  go_wp2_with fail
  have OD := oq2.kept (Fr.refl [] _).drew
  have HOD := hidI OD
  have hsD := hs.kept (ff.trans OD.2)
  clear OD
  go_region_law (first
    | (refine step_appB (by rfl) _ _ (by rfl) w2 gq _ cq _ rfl HOD.out s.a1 r.old.length s.c1 r.old rfl rfl hsD.b1 (by omega) (by omega) hs.n1 ?_; intro gA cA wA oA; have hsA := hs.kept (ff.trans oA.2); obtain ⟨y0, y1, y2, y3, y4, y5, y6, y7, y8, y9⟩ := rcells rb2 oA.2; have HOA := hidI oA; clear oA)
    | (refine step_appB (by rfl) _ _ (by rfl) w2 gA _ cA _ rfl HOA.out s.a2 r.new.length s.c2 r.new rfl rfl hsA.b2 (by omega) (by omega) hs.n2 ?_; intro gb cb w5z oz))
  all_goals
    obtain ⟨N, HN⟩ : ∃ N, Hid ((bodyL r).length = N) := ⟨_, rfl⟩
    rw [arr_append, arr_append] at oz
    have e5 : [UInt8.ofNat (r.kind : Int).toNat] ++ beK 8 r.tx.toNat ++ beK 8 r.prev.toNat ++ beK 4 r.block.toNat ++ beK 2 r.off.toNat ++ beK 2 r.new.length ++ r.old ++ r.new = bodyL r := by rw [hb]; simp [b3L, beK_one]
    have hN : (((((0 + 1 + 8 + 8) + 4) + 2) + 2) + r.old.length + r.new.length) = N := by rw [← HN.out, hb]; simp [b3L_length, beK_length]; try omega
    rw [e5] at oz
    rw [hN] at oz ⊢
    have o5 := oz
    clear oz e5 hN
    obtain ⟨n0, n1⟩ := body_bounds hr
    rw [HN.out] at n0 n1
    have hbb : BytesAt w5z (some ⟨gb, 0, none⟩) (bodyL r) := by
      obtain ⟨g', c', ee, hh, -, -⟩ := own_at o5 (by omega) HN.out
      cases ee
      exact hh
    clear x0 x1 x2 x3 x4 x5 x6 x7 x8 x9
    obtain ⟨x0, x1, x2, x3, x4, x5, x6, x7, x8, x9⟩ := rcells rb2 o5.2
    go_wp2_with fail
    refine (rput_any w5z _ (.slice none 0 0) 0 8 [] r.lsn.toNat r.lsn (by omega) (by omega) (by omega) rfl (by omega) (own_nil ⟨World.ownsRow_nil _ _ 5 1, Fr.refl _ _⟩)).mono ?_
    rintro e w6 ⟨v6, rfl, o6⟩
    clear x0 x1 x2 x3 x4 x5 x6 x7 x8 x9
    obtain ⟨x0, x1, x2, x3, x4, x5, x6, x7, x8, x9⟩ := rcells rb2 (o5.2.trans o6.2)
    go_wp2_with fail
    refine (rput_any w5z _ v6 (0 + 8) 4 _ r.turn.toNat r.turn (by omega) (by omega) (by omega) (by simp [beK_length]) (by omega) o6).mono ?_
    rintro e w7 ⟨v7, rfl, o7⟩
    clear x0 x1 x2 x3 x4 x5 x6 x7 x8 x9
    go_wp2_with fail
    refine (rput_any w5z _ v7 (0 + 8 + 4) 2 _ N (N : Int) rfl (by omega) (by omega) (by simp [beK_length]) (by omega) o7).mono ?_
    rintro e w8 ⟨v8, rfl, o8⟩
    have eh : [] ++ beK 8 r.lsn.toNat ++ beK 4 r.turn.toNat ++ beK 2 N = headL r := by rw [← HN.out]; rfl
    rw [eh] at o8
    replace o8 := own_len (m := 14) o8 rfl
    obtain ⟨g8, c8, rfl, hb8, hg8, -⟩ := own_at o8 (by omega) (headL_length r)
    clear eh o6 o7
    go_wp2_with (first
      | (refine wp_app rfl _ _ rfl w8 _ 0 [] rfl (own_made0 w8) (some ⟨g8, 0, none⟩) 14 c8 (headL r) rfl (headL_length r) (hb8.kept ((Fr.refl [] w8).alloc _) (by simp)) (by omega) (fun h => ⟨_, rfl⟩) ?_; intro v9 w9 o9)
      | (refine wp_app rfl _ _ rfl w8 v9 (0 + 14) _ rfl o9 (some ⟨gb, 0, none⟩) N cb (bodyL r) rfl HN.out (hbb.kept (o8.2.trans o9.2) (by simp)) (by omega) (fun h => ⟨_, rfl⟩) ?_; intro v10 w10 o10; clear o9))
    rw [List.nil_append, arr_append] at o10
    obtain ⟨g10, c10, rfl, hb10, -, -⟩ := own_at o10 (by omega) (by have := HN.out; simp [headL_length]; omega)
    refine (rsum_any _ _ (0 + 14 + N) c10 (headL r ++ bodyL r) (by have := HN.out; simp [headL_length]; omega) hb10 (by omega)).mono ?_
    rintro e w11 ⟨rfl, hw⟩
    subst hw
    obtain ⟨C, HC, hC⟩ : ∃ C : Nat, Hid (crc (headL r ++ bodyL r) = C) ∧ C < 4294967296 := ⟨_, rfl, crc_lt _⟩
    rw [HC.out]
    have hwC : IntKind.i64.wrap (C : Int) = (C : Int) := by simp [IntKind.wrap, IntKind.signed, IntKind.bits]; omega
    replace o8 := o8.kept o10.2
    clear hb8 hb10
    go_wp2_with fail
    refine (rput_any w5z _ _ 14 4 (headL r) C _ rfl (by omega) (by omega) (headL_length r) (by omega) o8).mono ?_
    rintro e w12 ⟨v12, rfl, o12⟩
    go_wp2_with (refine wp_app rfl _ _ rfl w5z v12 (14 + 4) _ rfl o12 (some ⟨gb, 0, none⟩) N cb (bodyL r) rfl HN.out (hbb.kept o12.2 (by simp)) (by omega) (fun h => ⟨_, rfl⟩) ?_; intro vA wA oA)
    go_ret2
    rw [arr_append] at oA
    refine ⟨_, rfl, own_base ?_ (ff.trans o5.2)⟩
    have el : encL r = headL r ++ beK 4 C ++ bodyL r := by rw [← HC.out]; rfl
    rw [el]
    exact own_len oA (by rw [← el, encL_length, HN.out])

set_option maxHeartbeats 400000 in
set_option maxRecDepth 100000 in
theorem rPut_two (w : World) (r : Rec) (s : Spots) (hs : SpotsAt w r s) (hr : rightB r = true) (hkk : r.kind < 256) (hb0 : 0 ≤ r.block) (hb1 : r.block < 65536) (ho0 : 0 ≤ r.off) (ho1 : r.off ≤ 512) (hno : r.old.length ≤ 1000) (hn1 : r.new.length ≤ 1000) (hx0 : 0 ≤ r.next) (hx1 : r.next ≤ 4611686018427387904) (q2 : ((r.kind : Int) == 2) = true) (hb : bodyL r = b3L r ++ beK 8 r.next.toNat ++ beK 4 r.block.toNat ++ beK 2 r.off.toNat ++ beK 2 r.new.length ++ r.old ++ r.new) (hnn : r.new.length ≤ 1000000) :
    Calls Try.prog 9 #[.agg (recV r s)] w fun e w' => ∃ v, e = .returned (.tuple #[v, .int .i64 0]) ∧ Own w w' v (encL r).length (arr (encL r)).toList := by
  obtain ⟨l0, l1, t0, t1, ht, hp, -⟩ := right_facts hr
  unfold placeB at ht hp
  simp only [Bool.and_eq_true, decide_eq_true_eq] at ht hp
  have hk0 : (0 : Int) ≤ (r.kind : Int) := by omega
  have hk1 : (r.kind : Int) < 256 := by omega
  have f1 : Fr [] w (w.alloc (.cells (recV r s) 27)) := (Fr.refl [] w).alloc _
  have rb : RBox (w.alloc (.cells (recV r s) 27)) w.heap.size r s := heap_alloc_new w _
  have hR := rright_any (w.alloc (.cells (recV r s) 27)) r s hnn
  rw [hr] at hR
  unfold recV at f1 hR
  unfold RBox recV at rb
  unfold recV
  go_enter Try.func9, Try.ntmps9
  go_wp2_with fail
  refine hR.mono ?_
  rintro e w2 ⟨rfl, f2⟩
  have rb2 : RBox w2 w.heap.size r s := f2.same (by simp) rb
  have ff := f1.trans f2
  obtain ⟨B, HB⟩ : ∃ B, Hid (w.heap.size = B) := ⟨_, rfl⟩
  rw [HB.out] at rb2 ⊢
  clear hR rb f1 f2
  obtain ⟨x0, x1, x2, x3, x4, x5, x6, x7, x8, x9⟩ := rcells rb2 (Fr.refl [] w2)
  go_wp2_with (refine wp_app rfl _ _ rfl w2 (.slice none 0 0) 0 [] rfl ⟨World.ownsRow_nil _ _ 5 1, (Fr.refl [] w2).alloc _⟩ _ 1 _ [UInt8.ofNat (r.kind : Int).toNat] rfl rfl (oneByte (r.kind : Int) hk0 hk1 w2) (by omega) (fun h => absurd h (by omega)) ?_; intro v3 w3 o3; clear x0 x1 x2 x3 x4 x5 x6 x7 x8 x9; obtain ⟨x0, x1, x2, x3, x4, x5, x6, x7, x8, x9⟩ := rcells rb2 o3.2)
  refine (rput_any w2 _ v3 (0 + 1) 8 [UInt8.ofNat (r.kind : Int).toNat] r.tx.toNat r.tx (by omega) (by omega) (by omega) rfl (by omega) (by simpa using o3)).mono ?_
  rintro e w4 ⟨v4, rfl, o4⟩
  clear x0 x1 x2 x3 x4 x5 x6 x7 x8 x9
  obtain ⟨x0, x1, x2, x3, x4, x5, x6, x7, x8, x9⟩ := rcells rb2 o4.2
  go_wp2_with fail
  refine (rput_any w2 _ v4 (0 + 1 + 8) 8 _ r.prev.toNat r.prev (by omega) (by omega) (by omega) (by simp [beK_length]) (by omega) o4).mono ?_
  rintro e w5 ⟨v5, rfl, o5⟩
  clear x0 x1 x2 x3 x4 x5 x6 x7 x8 x9
  obtain ⟨x0, x1, x2, x3, x4, x5, x6, x7, x8, x9⟩ := rcells rb2 o5.2
  go_wp2_with fail
  refine (rput_any w2 _ v5 (0 + 1 + 8 + 8) 8 _ r.next.toNat r.next (by omega) (by omega) (by omega) (by simp [beK_length]) (by omega) o5).mono ?_
  rintro e wq0 ⟨vq0, rfl, oq0⟩
  clear x0 x1 x2 x3 x4 x5 x6 x7 x8 x9
  obtain ⟨x0, x1, x2, x3, x4, x5, x6, x7, x8, x9⟩ := rcells rb2 oq0.2
  go_wp2_with fail
  refine (rput_any w2 _ vq0 ((0 + 1 + 8 + 8) + 8) 4 _ r.block.toNat r.block (by omega) (by omega) (by omega) (by simp [beK_length]) (by omega) oq0).mono ?_
  rintro e wq1 ⟨vq1, rfl, oq1⟩
  clear x0 x1 x2 x3 x4 x5 x6 x7 x8 x9
  obtain ⟨x0, x1, x2, x3, x4, x5, x6, x7, x8, x9⟩ := rcells rb2 oq1.2
  go_wp2_with fail
  refine (rput_any w2 _ vq1 (((0 + 1 + 8 + 8) + 8) + 4) 2 _ r.off.toNat r.off (by omega) (by omega) (by omega) (by simp [beK_length]) (by omega) oq1).mono ?_
  rintro e wq2 ⟨vq2, rfl, oq2⟩
  clear x0 x1 x2 x3 x4 x5 x6 x7 x8 x9
  obtain ⟨x0, x1, x2, x3, x4, x5, x6, x7, x8, x9⟩ := rcells rb2 oq2.2
  go_wp2_with fail
  refine (rput_any w2 _ vq2 ((((0 + 1 + 8 + 8) + 8) + 4) + 2) 2 _ r.new.length (r.new.length : Int) (by omega) (by omega) (by omega) (by simp [beK_length]) (by omega) oq2).mono ?_
  rintro e wq3 ⟨vq3, rfl, oq3⟩
  clear x0 x1 x2 x3 x4 x5 x6 x7 x8 x9
  obtain ⟨x0, x1, x2, x3, x4, x5, x6, x7, x8, x9⟩ := rcells rb2 oq3.2
  obtain ⟨gq, cq, rfl, -, -, -⟩ := own_at oq3 (by omega) (by simp [beK_length])
  have hsb := hs.kept (ff.trans oq3.2)
  go_wp2_with fail
  have OD := oq3.kept (Fr.refl [] _).drew
  have HOD := hidI OD
  have hsD := hs.kept (ff.trans OD.2)
  clear OD
  go_region_law (first
    | (refine step_appB (by rfl) _ _ (by rfl) w2 gq _ cq _ rfl HOD.out s.a1 r.old.length s.c1 r.old rfl rfl hsD.b1 (by omega) (by omega) hs.n1 ?_; intro gA cA wA oA; have hsA := hs.kept (ff.trans oA.2); obtain ⟨y0, y1, y2, y3, y4, y5, y6, y7, y8, y9⟩ := rcells rb2 oA.2; have HOA := hidI oA; clear oA)
    | (refine step_appB (by rfl) _ _ (by rfl) w2 gA _ cA _ rfl HOA.out s.a2 r.new.length s.c2 r.new rfl rfl hsA.b2 (by omega) (by omega) hs.n2 ?_; intro gb cb w5z oz))
  all_goals
    obtain ⟨N, HN⟩ : ∃ N, Hid ((bodyL r).length = N) := ⟨_, rfl⟩
    rw [arr_append, arr_append] at oz
    have e5 : [UInt8.ofNat (r.kind : Int).toNat] ++ beK 8 r.tx.toNat ++ beK 8 r.prev.toNat ++ beK 8 r.next.toNat ++ beK 4 r.block.toNat ++ beK 2 r.off.toNat ++ beK 2 r.new.length ++ r.old ++ r.new = bodyL r := by rw [hb]; simp [b3L, beK_one]
    have hN : ((((((0 + 1 + 8 + 8) + 8) + 4) + 2) + 2) + r.old.length + r.new.length) = N := by rw [← HN.out, hb]; simp [b3L_length, beK_length]; try omega
    rw [e5] at oz
    rw [hN] at oz ⊢
    have o5 := oz
    clear oz e5 hN
    obtain ⟨n0, n1⟩ := body_bounds hr
    rw [HN.out] at n0 n1
    have hbb : BytesAt w5z (some ⟨gb, 0, none⟩) (bodyL r) := by
      obtain ⟨g', c', ee, hh, -, -⟩ := own_at o5 (by omega) HN.out
      cases ee
      exact hh
    clear x0 x1 x2 x3 x4 x5 x6 x7 x8 x9
    obtain ⟨x0, x1, x2, x3, x4, x5, x6, x7, x8, x9⟩ := rcells rb2 o5.2
    go_wp2_with fail
    refine (rput_any w5z _ (.slice none 0 0) 0 8 [] r.lsn.toNat r.lsn (by omega) (by omega) (by omega) rfl (by omega) (own_nil ⟨World.ownsRow_nil _ _ 5 1, Fr.refl _ _⟩)).mono ?_
    rintro e w6 ⟨v6, rfl, o6⟩
    clear x0 x1 x2 x3 x4 x5 x6 x7 x8 x9
    obtain ⟨x0, x1, x2, x3, x4, x5, x6, x7, x8, x9⟩ := rcells rb2 (o5.2.trans o6.2)
    go_wp2_with fail
    refine (rput_any w5z _ v6 (0 + 8) 4 _ r.turn.toNat r.turn (by omega) (by omega) (by omega) (by simp [beK_length]) (by omega) o6).mono ?_
    rintro e w7 ⟨v7, rfl, o7⟩
    clear x0 x1 x2 x3 x4 x5 x6 x7 x8 x9
    go_wp2_with fail
    refine (rput_any w5z _ v7 (0 + 8 + 4) 2 _ N (N : Int) rfl (by omega) (by omega) (by simp [beK_length]) (by omega) o7).mono ?_
    rintro e w8 ⟨v8, rfl, o8⟩
    have eh : [] ++ beK 8 r.lsn.toNat ++ beK 4 r.turn.toNat ++ beK 2 N = headL r := by rw [← HN.out]; rfl
    rw [eh] at o8
    replace o8 := own_len (m := 14) o8 rfl
    obtain ⟨g8, c8, rfl, hb8, hg8, -⟩ := own_at o8 (by omega) (headL_length r)
    clear eh o6 o7
    go_wp2_with (first
      | (refine wp_app rfl _ _ rfl w8 _ 0 [] rfl (own_made0 w8) (some ⟨g8, 0, none⟩) 14 c8 (headL r) rfl (headL_length r) (hb8.kept ((Fr.refl [] w8).alloc _) (by simp)) (by omega) (fun h => ⟨_, rfl⟩) ?_; intro v9 w9 o9)
      | (refine wp_app rfl _ _ rfl w8 v9 (0 + 14) _ rfl o9 (some ⟨gb, 0, none⟩) N cb (bodyL r) rfl HN.out (hbb.kept (o8.2.trans o9.2) (by simp)) (by omega) (fun h => ⟨_, rfl⟩) ?_; intro v10 w10 o10; clear o9))
    rw [List.nil_append, arr_append] at o10
    obtain ⟨g10, c10, rfl, hb10, -, -⟩ := own_at o10 (by omega) (by have := HN.out; simp [headL_length]; omega)
    refine (rsum_any _ _ (0 + 14 + N) c10 (headL r ++ bodyL r) (by have := HN.out; simp [headL_length]; omega) hb10 (by omega)).mono ?_
    rintro e w11 ⟨rfl, hw⟩
    subst hw
    obtain ⟨C, HC, hC⟩ : ∃ C : Nat, Hid (crc (headL r ++ bodyL r) = C) ∧ C < 4294967296 := ⟨_, rfl, crc_lt _⟩
    rw [HC.out]
    have hwC : IntKind.i64.wrap (C : Int) = (C : Int) := by simp [IntKind.wrap, IntKind.signed, IntKind.bits]; omega
    replace o8 := o8.kept o10.2
    clear hb8 hb10
    go_wp2_with fail
    refine (rput_any w5z _ _ 14 4 (headL r) C _ rfl (by omega) (by omega) (headL_length r) (by omega) o8).mono ?_
    rintro e w12 ⟨v12, rfl, o12⟩
    go_wp2_with (refine wp_app rfl _ _ rfl w5z v12 (14 + 4) _ rfl o12 (some ⟨gb, 0, none⟩) N cb (bodyL r) rfl HN.out (hbb.kept o12.2 (by simp)) (by omega) (fun h => ⟨_, rfl⟩) ?_; intro vA wA oA)
    go_ret2
    rw [arr_append] at oA
    refine ⟨_, rfl, own_base ?_ (ff.trans o5.2)⟩
    have el : encL r = headL r ++ beK 4 C ++ bodyL r := by rw [← HC.out]; rfl
    rw [el]
    exact own_len oA (by rw [← el, encL_length, HN.out])

set_option maxRecDepth 100000 in
theorem rPut_ok (w : World) (r : Rec) (s : Spots) (hs : SpotsAt w r s) (hr : rightB r = true) :
    Calls Try.prog 9 #[.agg (recV r s)] w fun e w' => ∃ v, e = .returned (.tuple #[v, .int .i64 0]) ∧ Own w w' v (encL r).length (arr (encL r)).toList := by
  rcases right_kinds hr with ⟨hk, hn, b0, b1, o0, n0, o1, on⟩ | ⟨hk, hn, b0, b1, o0, n0, o1, on⟩ | ⟨hk, hn, b0, o0, on, nn⟩
  · exact rPut_one w r s hs hr (by omega) b0 b1 o0 (by omega) (by omega) (by omega) (by rw [hk]; rfl) (by rw [hk]; rfl) (by unfold bodyL b4L; rw [if_neg (by omega), if_neg (by omega)]) (by omega)
  · unfold placeB at hn
    simp only [Bool.and_eq_true, decide_eq_true_eq] at hn
    exact rPut_two w r s hs hr (by omega) b0 b1 o0 (by omega) (by omega) (by omega) (by omega) (by omega) (by rw [hk]; rfl) (by unfold bodyL b4L; rw [if_neg (by omega), if_pos (by omega)]) (by omega)
  · exact rPut_none w r s hr (by omega) (by rcases hk with h | h <;> rw [h] <;> rfl) (by rcases hk with h | h <;> rw [h] <;> rfl) (by unfold bodyL b4L; rw [if_pos nn, if_neg (by omega)]) (by omega)

end Go.Proofs.Yticmjdblcomecaa

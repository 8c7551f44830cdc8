/-
  A record appended: the program's Append, Room.
-/
import Derived.Test.YtopaeomjndblkaaGreatQOpen
namespace Go.Proofs.YtopaeomjndblkaaGreat
open Go.RowKit Go.Maps

set_option maxHeartbeats 400000 in
set_option maxRecDepth 100000 in
theorem room_any (w : World) (p d : Nat) (x : Lg) (hx : LBox w p x) (hd : x.dv = .pointer (some ⟨d, 0, none⟩)) (k0 : 4 ≤ x.count) (k1 : x.count ≤ 65536) (h0 : 1 ≤ x.oldest) (h1 : x.oldest ≤ x.fin) (h2 : x.fin ≤ 4611686018427387904) :
    Calls Tryz.prog 89 #[.pointer (some ⟨p, 0, none⟩)] w fun e w' => ∃ nq, e = .returned (.int .i64 (408 * (x.count - 1) - (x.fin - x.oldest))) ∧ w' = w.drewN nq := by
  obtain ⟨dv, first, count, turn, oldest, safe, fin, by_, from_, ls⟩ := x
  dsimp only at hd k0 k1 h0 h1 h2 ⊢
  subst hd
  have c0 : w.cell? ⟨p, 0, none⟩ = some (.pointer (some ⟨d, 0, none⟩)) := hx.c0
  have c4 : w.cell? ⟨p, 4, none⟩ = some (.int .i64 oldest) := hx.c4
  have c6 : w.cell? ⟨p, 6, none⟩ = some (.int .i64 fin) := hx.c6
  have q1 := wrapI (fin - oldest) (by omega) (by omega)
  have q2 := wrapI (408 * (count - 1) - (fin - oldest)) (by omega) (by omega)
  have LD : Hid (∀ n, (w.drewN n).cell? ⟨p, 2, none⟩ = some (.int .i64 count)) := hidI (fun n => (hx.kept ((Fr.refl [] w).drewN n) (by simp)).c2)
  go_enter Tryz.func89, Tryz.ntmps89
  go_wp2_with (go_at_call 177; refine (lmade_yes _ p d c0).mono ?_; rintro e w ⟨rfl, rfl⟩)
  go_quiet ((go_at_call 191; exact Calls.quiet_of_same (most_any _ p count (LD.out _) k0 k1)))
  go_wp2
  go_ret
  exact ⟨nq, rfl, rfl⟩

section
variable {ops : Array Oper} {rest : List Oper} {o : Oper} {a : Act} {w : World} {Q : Exit → Act → World → Prop}
/-- append of one number, as a step of a region that draws its order. -/
theorem step_appL {K : Act → World → Prop} {X : Prop} (hgd : o.guard = none) (s x : Operand) (ho : o.op = .call { callee := .builtin .append, args := #[s, x], argTypes := #[221, 221] }) (ad : Option Addr) (n c : Nat) (ls : List Int) (b : Nat) (k : Int) (hs : a.eval s = .slice ad n c) (hx : a.eval x = .slice (some ⟨b, 0, none⟩) 1 1)
    (hown : LsAt w ad n c ls) (hb : w.heap[b]? = some (.cells #[.int .i64 k] 2)) (hm : n + 1 ≤ 1000000)
    (h : ∀ g c' w', LsAt w' (some ⟨g, 0, none⟩) (n + 1) c' (ls ++ [k]) → Fr (Value.ownBlock (.slice ad n c)).toList w w' → NewOr ad n c g w.heap.size → K (a.put o.dst (.slice (some ⟨g, 0, none⟩) (n + 1) c')) w') :
    if Region.wanted o (yielded ops a.tmps) = true then Oper.wp Tryz.prog o a w K Q else X := by
  have hw : Region.wanted o (yielded ops a.tmps) = true := by simp [Region.wanted, hgd]
  rw [if_pos hw]
  obtain ⟨i, hi, hz, hsz, hbb⟩ := info2'
  obtain ⟨v', w', hrun, h2, h3, h4, h5⟩ := run_append_own_at (P := Tryz.prog) w 0 221 o.type 2 i (.int .i64 0) 1 8 Tryz.underlying221 hi hz hsz hbb rfl (by omega) _ n (lsV ls) hown ⟨b, 0, none⟩ 1 1 [.int .i64 k] (by simp)
    (by
      intro j x hx
      cases j with
      | zero =>
        simp at hx
        subst hx
        rw [Addr.add_mid]
        exact cell_of_row w b 0 _ _ _ hb
      | succ j => simp at hx) (by intro x hx; simp at hx; subst hx; rfl) (by unfold maxLen; omega) (by omega) (Nat.zero_le _)
  rcases h2.2 with ⟨e, hn0⟩ | ⟨g, c', cur, e, r⟩
  · omega
  · subst e
    have h2' : LsAt w' (some ⟨g, 0, none⟩) (n + 1) c' (ls ++ [k]) := by
      unfold LsAt lsV
      rw [List.map_append]
      exact h2
    unfold Oper.wp
    simp [execOp, ho, resolve, invoke, builtin, hs, hx, hrun, Result.andThen]
    exact h _ _ _ h2' ((Fr.refl _ _).grown h3 (fun j e _ => by simp [e])) (new_of h5)
end

theorem notin_of {w : World} {L : List Nat} {e t : TypeId} {b : Nat} {c2 : Array Value} (hT : ∀ g ∈ L, ∃ cur, w.heap[g]? = some (.cells cur e)) (h : w.heap[b]? = some (.cells c2 t)) (ht : t ≠ e) : b ∉ L := by
  intro hb
  obtain ⟨cur, hc⟩ := hT b hb
  rw [h] at hc
  cases hc
  exact ht rfl
theorem types_of {w : World} {L : List Nat} {e e' : TypeId} (hT : ∀ g ∈ L, ∃ cur, w.heap[g]? = some (.cells cur e)) (he : e ≠ e') : ∀ g ∈ L, ∀ cur t, w.heap[g]? = some (.cells cur t) → t ≠ e' := by
  intro g hg cur t hc
  obtain ⟨cur', hc'⟩ := hT g hg
  rw [hc] at hc'
  cases hc'
  exact he

set_option maxHeartbeats 1000000 in
set_option maxRecDepth 100000 in
theorem append_ok2 (w : World) (p d : Nat) (dv : Value) (first count turn oldest safe fin from_ : Int) (a1 a2 : Option Addr) (n1 n2 c1 c2 : Nat) (hx : LBox w p ⟨dv, first, count, turn, oldest, safe, fin, .slice a1 n1 c1, from_, .slice a2 n2 c2⟩) (hd : dv = .pointer (some ⟨d, 0, none⟩)) (k0 : 4 ≤ count) (k1 : count ≤ 65536) (h0 : 1 ≤ oldest) (h1 : oldest ≤ fin) (h2 : fin ≤ 2305843009213693952)
    (lb : List UInt8) (ls : List Int) (hbs : BsAt w a1 n1 c1 lb) (hls : LsAt w a2 n2 c2 ls) (hn1 : n1 ≤ 500000) (hn2 : n2 ≤ 500000)
    (r : Rec) (s : Spots) (hs : SpotsAt w r s) (hr : rightB { r with lsn := fin, turn := turn } = true) (hroom : ((encL { r with lsn := fin, turn := turn }).length : Int) ≤ 408 * (count - 1) - (fin - oldest)) :
    Calls Tryz.prog 170 #[.pointer (some ⟨p, 0, none⟩), .agg (recV r s)] w fun e w' => e = .returned (.tuple #[.int .i64 fin, .int .i64 0]) ∧ ∃ g1 d1 g2 d2, LBox w' p ⟨dv, first, count, turn, oldest, safe, fin + ((encL { r with lsn := fin, turn := turn }).length : Int), .slice (some ⟨g1, 0, none⟩) (n1 + (encL { r with lsn := fin, turn := turn }).length) d1, from_, .slice (some ⟨g2, 0, none⟩) (n2 + 1) d2⟩ ∧ BsAt w' (some ⟨g1, 0, none⟩) (n1 + (encL { r with lsn := fin, turn := turn }).length) d1 (lb ++ encL { r with lsn := fin, turn := turn }) ∧ LsAt w' (some ⟨g2, 0, none⟩) (n2 + 1) d2 (ls ++ [fin]) ∧ NewOr a1 n1 c1 g1 w.heap.size ∧ NewOr a2 n2 c2 g2 w.heap.size ∧ Fr (p :: ((Value.ownBlock (.slice a1 n1 c1)).toList ++ (Value.ownBlock (.slice a2 n2 c2)).toList)) w w' := by
  subst hd
  have hbb := body_bounds hr
  have HEL : Hid ((encL { r with lsn := fin, turn := turn }).length = 18 + (bodyL { r with lsn := fin, turn := turn }).length) := hidI (encL_length _)
  obtain ⟨N, HN⟩ : ∃ N, Hid ((encL { r with lsn := fin, turn := turn }).length = N) := ⟨_, rfl⟩
  have hN : 35 ≤ N ∧ N ≤ 1067 := by rw [← HN.out, HEL.out]; omega
  rw [HN.out] at hroom ⊢
  have HPU : Hid (∀ w', Fr [] w w' → Calls Tryz.prog 223 #[.agg (recV { r with lsn := fin, turn := turn } s)] w' fun e w'' => ∃ v, e = .returned (.tuple #[v, .int .i64 0]) ∧ Own w' w'' v N (arr (encL { r with lsn := fin, turn := turn })).toList) := hidI (fun w' f => by rw [← HN.out]; exact put_ok w' { r with lsn := fin, turn := turn } s ⟨(hs.kept f).b1, (hs.kept f).b2, hs.n1, hs.n2⟩ hr)
  generalize hE : encL { r with lsn := fin, turn := turn } = E at HPU HN
  have rb : RBox (w.alloc (.cells (recV r s) 192)) w.heap.size r s := heap_alloc_new w _
  have f1 : Fr [] w (w.alloc (.cells (recV r s) 192)) := (Fr.refl [] w).alloc _
  have hpl := hx.lt
  unfold RBox recV at rb
  unfold recV at f1
  unfold recV at HPU
  unfold recV
  clear hbb hr HEL hE
  have HX := hidI hx
  have c0 : (w.alloc (.cells #[.int .i64 r.lsn, .int .i64 r.turn, .int .u8 (r.kind : Int), .int .i64 r.tx, .int .i64 r.prev, .int .i64 r.next, .int .i64 r.block, .int .i64 r.off, .slice s.a1 r.old.length s.c1, .slice s.a2 r.new.length s.c2] 192)).cell? ⟨p, 0, none⟩ = some (.pointer (some ⟨d, 0, none⟩)) := (hx.kept f1 (by simp)).c0
  go_enter Tryz.func170, Tryz.ntmps170
  go_wp2_with fail
  generalize w.alloc (.cells #[.int .i64 r.lsn, .int .i64 r.turn, .int .u8 (r.kind : Int), .int .i64 r.tx, .int .i64 r.prev, .int .i64 r.next, .int .i64 r.block, .int .i64 r.off, .slice s.a1 r.old.length s.c1, .slice s.a2 r.new.length s.c2] 192) = w1 at rb f1 c0 ⊢
  refine (lmade_yes _ p d c0).mono ?_
  rintro e w1 ⟨rfl, rfl⟩
  obtain ⟨Z, HZ⟩ : ∃ Z, Hid (w.heap.size = Z) := ⟨_, rfl⟩
  rw [HZ.out] at rb hpl ⊢
  have L1 := hx.kept f1 (by simp)
  have R1 : RBox w1 Z r s := rb
  have c6 : w1.cell? ⟨p, 6, none⟩ = some (.int .i64 fin) := L1.c6
  have c3 : w1.cell? ⟨p, 3, none⟩ = some (.int .i64 turn) := L1.c3
  have x0 := R1.c0
  have x1 := R1.c1
  have z0 := R1.fz 0
  have z1 := R1.fz 1
  clear rb
  go_wp2_with fail
  go_region
  have R2 := ((R1.s0 fin).s1 turn).kept (Fr.refl [] _).drew (by simp)
  have hZp : Z ≠ p := by omega
  have fz2 : Fr [Z] w1 ((w1.setCell ⟨Z, 0, none⟩ (.int .i64 fin)).setCell ⟨Z, 1, none⟩ (.int .i64 turn)).drew := ((fr_set w1 Z 0 _).trans (fr_set _ Z 1 _)).drew
  have L2 := L1.kept fz2 (by simpa using hZp.symm)
  have F2 : Fr [] w ((w1.setCell ⟨Z, 0, none⟩ (.int .i64 fin)).setCell ⟨Z, 1, none⟩ (.int .i64 turn)).drew := f1.then fz2 (fun i hi hm => by simp at hm; have h := HZ.out; omega)
  clear x0 x1 z0 z1 c3 c6 c0 R1 L1 f1 fz2
  generalize ((w1.setCell ⟨Z, 0, none⟩ (.int .i64 fin)).setCell ⟨Z, 1, none⟩ (.int .i64 turn)).drew = w2 at R2 L2 F2 ⊢
  have x0 : w2.cell? ⟨Z, 0, none⟩ = some (.int .i64 fin) := R2.c0
  have x1 : w2.cell? ⟨Z, 1, none⟩ = some (.int .i64 turn) := R2.c1
  have x2 : w2.cell? ⟨Z, 2, none⟩ = some (.int .u8 (r.kind : Int)) := R2.c2
  have x3 : w2.cell? ⟨Z, 3, none⟩ = some (.int .i64 r.tx) := R2.c3
  have x4 : w2.cell? ⟨Z, 4, none⟩ = some (.int .i64 r.prev) := R2.c4
  have x5 : w2.cell? ⟨Z, 5, none⟩ = some (.int .i64 r.next) := R2.c5
  have x6 : w2.cell? ⟨Z, 6, none⟩ = some (.int .i64 r.block) := R2.c6
  have x7 : w2.cell? ⟨Z, 7, none⟩ = some (.int .i64 r.off) := R2.c7
  have x8 : w2.cell? ⟨Z, 8, none⟩ = some (.slice s.a1 r.old.length s.c1) := R2.c8
  have x9 : w2.cell? ⟨Z, 9, none⟩ = some (.slice s.a2 r.new.length s.c2) := R2.c9
  go_wp2_with fail
  refine (HPU.out w2 F2).mono ?_
  rintro e w3 ⟨v, rfl, o3⟩
  obtain ⟨g3, c3, rfl, b3, hg3, -⟩ := own_at o3 (by omega) HN.out
  have L3 := L2.kept o3.2 (by simp)
  have R3 := R2.kept o3.2 (by simp)
  have F3 := F2.trans o3.2
  clear x0 x1 x2 x3 x4 x5 x6 x7 x8 x9 L2 R2 F2 o3 HPU
  go_wp2_with fail
  refine (room_any w3 p d _ L3 rfl k0 k1 h0 h1 (by dsimp only; omega)).mono ?_
  rintro e w4 ⟨nq, rfl, hw4⟩
  have fd : Fr [] w3 w4 := by rw [hw4]; exact (Fr.refl [] w3).drewN nq
  clear hw4
  have L4 := L3.kept fd (by simp)
  have R4 := R3.kept fd (by simp)
  have F4 := F3.trans fd
  have b4 := b3.kept fd (by simp)
  have hb4 := own0_kept (L := []) hbs F4 (fun g' hg' => nomatch hg')
  have hl4 := own0_kept (L := []) hls F4 (fun g' hg' => nomatch hg')
  have q1 : ¬ 408 * (count - 1) - (fin - oldest) < (N : Int) := by omega
  have c7 : w4.cell? ⟨p, 7, none⟩ = some (.slice a1 n1 c1) := L4.c7
  clear L3 R3 F3 fd b3
  dsimp only
  have T1 := hidI (own0_type hb4)
  go_wp2_with (refine wp_appBB rfl _ _ rfl a1 n1 c1 lb g3 0 N c3 _ rfl rfl hb4 HN.out b4 (by omega) (by omega) ?_; intro g5 d5 w5 bs5 f5 n5; have N5 := hidI n5; clear n5; have L5 := L4.kept f5 (notin_of T1.out L4 (by decide)); have R5 := R4.kept f5 (notin_of T1.out R4 (by decide)); have ls5 := own0_kept hl4 f5 (types_of T1.out (by decide)); have e7 : w5.cell? ⟨p, 7, none⟩ = some (.slice a1 n1 c1) := L5.c7; have z7 := L5.fz 7)
  have L6 := L5.s7 (.slice (some ⟨g5, 0, none⟩) (n1 + N) d5)
  have f6 := fr_set w5 p 7 (.slice (some ⟨g5, 0, none⟩) (n1 + N) d5)
  have R6 := R5.kept f6 (by simpa using hZp)
  have bs6 := own0_kept bs5 f6 (lbox_type L5 5 (by decide))
  have ls6 := own0_kept ls5 f6 (lbox_type L5 2 (by decide))
  clear c7 e7 z7 L4 R4 hb4 hl4 L5 R5 bs5 ls5 b4
  dsimp only at L6
  generalize w5.setCell ⟨p, 7, none⟩ (.slice (some ⟨g5, 0, none⟩) (n1 + N) d5) = w6 at L6 R6 bs6 ls6 f6 ⊢
  have c9 : w6.cell? ⟨p, 9, none⟩ = some (.slice a2 n2 c2) := L6.c9
  have c6 : w6.cell? ⟨p, 6, none⟩ = some (.int .i64 fin) := L6.c6
  have T2 := hidI (own0_type ls6)
  have FD : Fr [] w6 (w6.drew.alloc (.cells #[.int .i64 fin] 2)) := (Fr.refl [] w6).drew.alloc _
  have lsD := own0_kept (L := []) ls6 FD (fun g' hg' => nomatch hg')
  have LD := L6.kept FD (by simp)
  have TD := hidI (own0_type lsD)
  have HLs := hidI lsD
  have HLD := hidI LD
  have kA : (w6.alloc (.cells #[.int .i64 fin] 2)).cell? ⟨p, 9, none⟩ = some (.slice a2 n2 c2) := (L6.kept ((Fr.refl [] w6).alloc _) (by simp)).c9
  clear lsD LD
  go_region_law ((refine step_appL (by rfl) _ _ (by rfl) a2 n2 c2 ls w6.heap.size fin rfl rfl HLs.out (heap_alloc_new w6.drew _) (by omega) ?_; intro g7 d7 w7 ls7 f7 n7; have N7 := hidI n7; clear n7; have L7 := HLD.out.kept f7 (notin_of TD.out HLD.out (by decide)); have e9 : w7.cell? ⟨p, 9, none⟩ = some (.slice a2 n2 c2) := L7.c9; have z9 := L7.fz 9))
  all_goals
    have hwf := wrapI (fin + (N : Int)) (by omega) (by omega)
    have L8 := L7.s9 (.slice (some ⟨g7, 0, none⟩) (n2 + 1) d7)
    have c86 : World.cell? _ ⟨p, 6, none⟩ = some (.int .i64 fin) := L8.c6
    have z86 := L8.fz 6
    have L9 := L8.s6 (fin + (N : Int))
    have R7 := (R6.kept FD (by simp)).kept f7 (notin_of TD.out (R6.kept FD (by simp)) (by decide))
    have R9 := (R7.kept (fr_set w7 p 9 (.slice (some ⟨g7, 0, none⟩) (n2 + 1) d7)) (by simpa using hZp)).kept (fr_set _ p 6 (.int .i64 (fin + (N : Int)))) (by simpa using hZp)
    have x0 : World.cell? _ ⟨Z, 0, none⟩ = some (.int .i64 fin) := R9.c0
    have bs7 := own0_kept (own0_kept (L := []) bs6 FD (fun g' hg' => nomatch hg')) f7 (types_of TD.out (by decide))
    have HB := hidI (own0_kept (own0_kept bs7 (fr_set w7 p 9 (.slice (some ⟨g7, 0, none⟩) (n2 + 1) d7)) (lbox_type L7 5 (by decide))) (fr_set _ p 6 (.int .i64 (fin + (N : Int)))) (lbox_type L8 5 (by decide)))
    have HS := hidI (own0_kept (own0_kept ls7 (fr_set w7 p 9 (.slice (some ⟨g7, 0, none⟩) (n2 + 1) d7)) (lbox_type L7 2 (by decide))) (fr_set _ p 6 (.int .i64 (fin + (N : Int)))) (lbox_type L8 2 (by decide)))
    clear bs7 bs6 ls6 ls7 c9 c6 kA
    go_wp2_with fail
    go_ret2
    refine ⟨rfl, g5, d5, g7, d7, L9, HB.out, HS.out, N5.out.imp id (fun h1 => (by have h2 := F4.size; omega)), N7.out.imp id (fun h1 => (by simp at h1; have h2 := F4.size; have h3 := f5.size; have h4 := f6.size; omega)), ?_⟩
    have q1 : Fr (p :: ((Value.ownBlock (.slice a1 n1 c1)).toList ++ (Value.ownBlock (.slice a2 n2 c2)).toList)) w w4 := F4.mono (fun _ _ e => nomatch e)
    have q2 : Fr (p :: ((Value.ownBlock (.slice a1 n1 c1)).toList ++ (Value.ownBlock (.slice a2 n2 c2)).toList)) w4 w5 := f5.mono (fun k _ hk => List.mem_cons_of_mem _ (List.mem_append_left _ hk))
    have q3 : Fr (p :: ((Value.ownBlock (.slice a1 n1 c1)).toList ++ (Value.ownBlock (.slice a2 n2 c2)).toList)) w5 w6 := f6.mono (fun k _ hk => by simp at hk; subst hk; exact List.mem_cons_self)
    have q4 : Fr (p :: ((Value.ownBlock (.slice a1 n1 c1)).toList ++ (Value.ownBlock (.slice a2 n2 c2)).toList)) w6 _ := FD.mono (fun _ _ e => nomatch e)
    have q5 : Fr (p :: ((Value.ownBlock (.slice a1 n1 c1)).toList ++ (Value.ownBlock (.slice a2 n2 c2)).toList)) _ w7 := f7.mono (fun k _ hk => List.mem_cons_of_mem _ (List.mem_append_right _ hk))
    have q6 : Fr (p :: ((Value.ownBlock (.slice a1 n1 c1)).toList ++ (Value.ownBlock (.slice a2 n2 c2)).toList)) w7 _ := ((fr_set w7 p 9 (.slice (some ⟨g7, 0, none⟩) (n2 + 1) d7)).trans (fr_set _ p 6 (.int .i64 (fin + (N : Int))))).mono (fun k _ hk => by simp at hk; subst hk; exact List.mem_cons_self)
    exact ((((q1.trans q2).trans q3).trans q4).trans q5).trans q6

theorem append_ok (w : World) (p d : Nat) (dv : Value) (first count turn oldest safe fin from_ : Int) (a1 a2 : Option Addr) (n1 n2 c1 c2 : Nat) (hx : LBox w p ⟨dv, first, count, turn, oldest, safe, fin, .slice a1 n1 c1, from_, .slice a2 n2 c2⟩) (hd : dv = .pointer (some ⟨d, 0, none⟩)) (k0 : 4 ≤ count) (k1 : count ≤ 65536) (h0 : 1 ≤ oldest) (h1 : oldest ≤ fin) (h2 : fin ≤ 2305843009213693952)
    (lb : List UInt8) (ls : List Int) (hbs : BsAt w a1 n1 c1 lb) (hls : LsAt w a2 n2 c2 ls) (hn1 : n1 ≤ 500000) (hn2 : n2 ≤ 500000)
    (r : Rec) (s : Spots) (hs : SpotsAt w r s) (hr : rightB { r with lsn := fin, turn := turn } = true) (hroom : ((encL { r with lsn := fin, turn := turn }).length : Int) ≤ 408 * (count - 1) - (fin - oldest)) :
    Calls Tryz.prog 170 #[.pointer (some ⟨p, 0, none⟩), .agg (recV r s)] w fun e w' => e = .returned (.tuple #[.int .i64 fin, .int .i64 0]) ∧ ∃ g1 d1 g2 d2, LBox w' p ⟨dv, first, count, turn, oldest, safe, fin + ((encL { r with lsn := fin, turn := turn }).length : Int), .slice (some ⟨g1, 0, none⟩) (n1 + (encL { r with lsn := fin, turn := turn }).length) d1, from_, .slice (some ⟨g2, 0, none⟩) (n2 + 1) d2⟩ ∧ BsAt w' (some ⟨g1, 0, none⟩) (n1 + (encL { r with lsn := fin, turn := turn }).length) d1 (lb ++ encL { r with lsn := fin, turn := turn }) ∧ LsAt w' (some ⟨g2, 0, none⟩) (n2 + 1) d2 (ls ++ [fin]) ∧ (a1 = none → w.heap.size ≤ g1) ∧ (a2 = none → w.heap.size ≤ g2) ∧ Fr (p :: ((Value.ownBlock (.slice a1 n1 c1)).toList ++ (Value.ownBlock (.slice a2 n2 c2)).toList)) w w' := by
  refine (append_ok2 w p d dv first count turn oldest safe fin from_ a1 a2 n1 n2 c1 c2 hx hd k0 k1 h0 h1 h2 lb ls hbs hls hn1 hn2 r s hs hr hroom).mono ?_
  rintro e w' ⟨he, g1, d1, g2, d2, L, B, S, N1, N2, f⟩
  exact ⟨he, g1, d1, g2, d2, L, B, S, N1.none, N2.none, f⟩

end Go.Proofs.YtopaeomjndblkaaGreat

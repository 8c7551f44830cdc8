/-
  A log's records told: the program's Read and From, where there is one.
-/
import Derived.Test.YticmjdblcomecaaGreatQRecd
namespace Go.Proofs.YticmjdblcomecaaGreat
open Go.RowKit Go.Maps

set_option maxHeartbeats 400000 in
set_option maxRecDepth 100000 in
theorem read_one (w : World) (p d : Nat) (first count turn oldest safe fin k : Int) (gl cl g n c : Nat) (l : List UInt8) (r : Rec) (hx : LBox w p ⟨.pointer (some ⟨d, 0, none⟩), first, count, turn, oldest, safe, fin, .slice (some ⟨g, 0, none⟩) n c, k, .slice (some ⟨gl, 0, none⟩) 1 cl⟩) (hls : LsAt w (some ⟨gl, 0, none⟩) 1 cl [k]) (hb : BytesAt w (some ⟨g, 0, none⟩) l) (hl : l.length = n) (hn0 : 1 ≤ n) (hn : n ≤ 100000) (hc : n ≤ c) (hd : decR l = some (r, n)) :
    Calls Tryz.prog 19 #[.pointer (some ⟨p, 0, none⟩), .int .i64 k] w fun e w' => ∃ s, e = .returned (.tuple #[.agg (recV r s), .int .i64 0]) ∧ Fr [] w w' := by
  have rR : RBox (w.alloc (.cells #[.int .i64 0, .int .i64 0, .int .u8 0, .int .i64 0, .int .i64 0, .int .i64 0, .int .i64 0, .int .i64 0, .slice none 0 0, .slice none 0 0] 27)) w.heap.size (zeroR 0 0) zeroS := heap_alloc_new w _
  have f1 := (Fr.refl [] w).alloc (.cells #[.int .i64 0, .int .i64 0, .int .u8 0, .int .i64 0, .int .i64 0, .int .i64 0, .int .i64 0, .int .i64 0, .slice none 0 0, .slice none 0 0] 27)
  go_enter Tryz.func19, Tryz.ntmps19
  go_wp2_with fail
  generalize w.alloc (.cells #[.int .i64 0, .int .i64 0, .int .u8 0, .int .i64 0, .int .i64 0, .int .i64 0, .int .i64 0, .int .i64 0, .slice none 0 0, .slice none 0 0] 27) = w1 at rR f1 ⊢
  have L1 := hx.kept f1 (by simp)
  have b1 := hb.kept f1 (by simp)
  have ls1 := own0_kept (L := []) hls f1 (fun g' hg' => nomatch hg')
  have k0 : w1.cell? ⟨p, 0, none⟩ = some (.pointer (some ⟨d, 0, none⟩)) := L1.c0
  have k9 : w1.cell? ⟨p, 9, none⟩ = some (.slice (some ⟨gl, 0, none⟩) 1 cl) := L1.c9
  obtain ⟨gl', e1, -, hcell⟩ := LsAt.at ls1 (by omega) rfl
  cases e1
  have kl := hcell 0 k rfl
  refine (lmade_yes _ p d k0).mono ?_
  rintro e w1 ⟨rfl, rfl⟩
  go_wp2_with fail
  refine (bin_one _ gl cl k kl).mono ?_
  rintro e w1 ⟨rfl, rfl⟩
  go_wp2_with fail
  refine (record_one w1 p _ first count turn oldest safe fin k _ g n c l r L1 b1 hl hn0 hn hc hd).mono ?_
  rintro e w2 ⟨s, rfl, ns, f2⟩
  have r2 := rR.kept f2 (by simp)
  go_wp2_with (refine wp_storeR rfl _ _ rfl w.heap.size _ r _ s rfl rfl r2 ?_; intro w3 r3 f3)
  refine bodyPost_ret (resR2 rfl _ _ w.heap.size r s rfl r3) rfl ⟨s, rfl, (f1.trans f2).then f3 (fun i hi hm => by simp at hm; omega)⟩

theorem infoR : (Tryz.prog.info? 27).map (fun i => (i.zero, i.size, i.bytes)) = some (some (.agg (recV (zeroR 0 0) zeroS)), 10, 112) := by kernel_rfl
theorem infoR' : ∃ i, Tryz.prog.info? 27 = some i ∧ i.zero = some (.agg (recV (zeroR 0 0) zeroS)) ∧ i.size = 10 ∧ i.bytes = 112 := by
  have h := infoR
  cases hi : Tryz.prog.info? 27 with
  | none => rw [hi] at h; cases h
  | some i =>
    rw [hi] at h
    simp at h
    exact ⟨i, rfl, h.1, h.2.1, h.2.2⟩

section
variable {ops : Array Oper} {rest : List Oper} {o : Oper} {a : Act} {w : World} {Q : Exit → Act → World → Prop}
/-- append of one record to no row. -/
theorem wp_appR0 (hgd : o.guard = none) (s x : Operand) (ho : o.op = .call { callee := .builtin .append, args := #[s, x], argTypes := #[53, 53] }) (b : Nat) (r : Rec) (sp : Spots) (hs : a.eval s = .slice none 0 0) (hx : a.eval x = .slice (some ⟨b, 0, none⟩) 1 1)
    (hb : RBox w b r sp)
    (h : ∀ g c' w', Fr [] w w' → wpList Tryz.prog ops Q rest (a.put o.dst (.slice (some ⟨g, 0, none⟩) 1 c')) w') : wpList Tryz.prog ops Q (o :: rest) a w :=
  wpList_plain hgd fun K hK => by
    obtain ⟨i, hi, hz, hsz, hbb⟩ := infoR'
    obtain ⟨v', w', hrun, h2, h3, h4, _⟩ := run_append_own_at (P := Tryz.prog) w 0 53 o.type 27 i (.agg (recV (zeroR 0 0) zeroS)) 10 112 Tryz.underlying53 hi hz hsz hbb rfl (by omega) (.slice none 0 0) 0 [] ⟨by simp, Or.inl ⟨rfl, rfl⟩⟩ ⟨b, 0, none⟩ 1 1 (recV r sp).toList (by simp [recV])
      (by
        intro j x hx
        rw [Addr.add_mid, Nat.zero_add, cell_of_row w b j _ _ _ hb]
        simpa using hx) (by simp [recV]; exact ⟨rfl, rfl, rfl, rfl, rfl, rfl, rfl, rfl, rfl, rfl⟩) (by unfold maxLen; omega) (by omega) (Nat.zero_le _)
    rcases h2.2 with ⟨e, hn0⟩ | ⟨g, c', cur, e, rr⟩
    · omega
    · subst e
      unfold Oper.wp execOp
      simp [ho, resolve, invoke, builtin, hs, hx, hrun, Result.andThen]
      exact hK _ _ (h _ _ _ ((Fr.refl _ _).grown h3 (fun j e _ => by cases e)))
end

set_option maxHeartbeats 400000 in
set_option maxRecDepth 100000 in
theorem from_one (w : World) (p d : Nat) (first count turn oldest safe fin k : Int) (gl cl g n c : Nat) (l : List UInt8) (r : Rec) (hx : LBox w p ⟨.pointer (some ⟨d, 0, none⟩), first, count, turn, oldest, safe, fin, .slice (some ⟨g, 0, none⟩) n c, k, .slice (some ⟨gl, 0, none⟩) 1 cl⟩) (hls : LsAt w (some ⟨gl, 0, none⟩) 1 cl [k]) (hb : BytesAt w (some ⟨g, 0, none⟩) l) (hl : l.length = n) (hn0 : 1 ≤ n) (hn : n ≤ 100000) (hc : n ≤ c) (hd : decR l = some (r, n)) :
    Calls Tryz.prog 20 #[.pointer (some ⟨p, 0, none⟩), .int .i64 k] w fun e w' => ∃ ad cc, e = .returned (.slice ad 1 cc) ∧ Fr [] w w' := by
  have k0 : w.cell? ⟨p, 0, none⟩ = some (.pointer (some ⟨d, 0, none⟩)) := hx.c0
  have k9 : w.cell? ⟨p, 9, none⟩ = some (.slice (some ⟨gl, 0, none⟩) 1 cl) := hx.c9
  obtain ⟨gl', e1, hcl, hcell⟩ := LsAt.at hls (by omega) rfl
  cases e1
  have kl := hcell 0 k rfl
  have hcl' : (1 : Int) ≤ cl := by omega
  have hcl0 : ¬ cl = 0 := by omega
  go_enter Tryz.func20, Tryz.ntmps20
  go_wp2_with fail
  refine (lmade_yes _ p d k0).mono ?_
  rintro e w ⟨rfl, rfl⟩
  go_wp2_with fail
  refine (bin_one _ gl cl k kl).mono ?_
  rintro e w ⟨rfl, rfl⟩
  go_wp2_with fail
  go_loopw [7, 31] (fun v i wr => (v = .slice none 0 0 ∧ i = .int .i64 0 ∧ wr = w) ∨ ((∃ ad cc, v = .slice ad 1 cc) ∧ i = .int .i64 1 ∧ Fr [] w wr)) (fun _ i _ => 1 - (intOf i).toNat)
  case atStart => exact Or.inl ⟨rfl, rfl, rfl⟩
  case round =>
    rcases hrel with ⟨rfl, rfl, hwr⟩ | ⟨⟨ad, cc, rfl⟩, rfl, f1⟩
    · subst hwr
      go_wp2_with fail
      refine (record_one wr p _ first count turn oldest safe fin k _ g n c l r hx hb hl hn0 hn hc hd).mono ?_
      rintro e w2 ⟨s, rfl, ns, f2⟩
      have RB : RBox (w2.alloc (.cells (recV r s) 27)) w2.heap.size r s := heap_alloc_new w2 _
      unfold RBox recV at RB
      unfold recV
      go_wp2_with (refine wp_appR0 rfl _ _ rfl w2.heap.size r s rfl rfl RB ?_; intro g5 c5 w5 f5)
      exact ⟨Or.inr ⟨⟨_, _, rfl⟩, rfl, (f2.alloc _).trans f5⟩, by simp [intOf]⟩
    · go_wp2_with fail
      go_ret
      exact ⟨ad, cc, rfl, f1⟩

end Go.Proofs.YticmjdblcomecaaGreat

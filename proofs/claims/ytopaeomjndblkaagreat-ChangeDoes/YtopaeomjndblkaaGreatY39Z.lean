/-
  One change undone: its three steps.
-/
import Derived.Test.YtopaeomjndblkaaGreatY38Z
namespace Go.Proofs.YtopaeomjndblkaaGreat
open Go.RowKit Go.Maps

def BackBox (w : World) (kb pg off go n : Nat) : Prop := w.heap[kb]? = some (.cells #[.int .i64 (pg : Int), .int .i64 (off : Int), .slice none 0 0, .slice (some ⟨go, 0, none⟩) n n] 42)
set_option maxRecDepth 100000 in
theorem un1 {w : World} {b : Bk} (h : BkAt w b) (ok : TxOk b) (hu : b.t.und = 0) {B kb rb : Nat} (hB : w.heap[B]? = some (.cells #[.pointer (some ⟨b.bp, 0, none⟩)] 60)) {pg off go n : Nat} (hk : BackBox w kb pg off go n) {nxt : Int} (hr : w.cell? ⟨rb, 4, none⟩ = some (.int .i64 nxt)) {old : List UInt8} (ho : Blk w go old) (hx : placeB nxt = true) (h1 : old.length = n) (h0 : 0 < n) (hf : off + n ≤ 512) (hp : pg < 65536) (hroom : ((51 + n : Nat) : Int) ≤ b.room) (hE : b.x.y.E + (51 + n) ≤ 400000) :
    Calls Tryz.prog 237 #[.pointer (some ⟨B, 0, none⟩), .pointer (some ⟨kb, 0, none⟩), .pointer (some ⟨rb, 0, none⟩)] w fun e w' => e = .returned (.int .i64 0) ∧ ∃ y', Appd b.x.y y' (51 + n) (txRec b.t (undRec pg off nxt old)) ∧ BStep w w' b { b with x := { b.x with y := y' }, t := { b.t with last := (b.x.y.E : Int) + 1, und := (b.x.y.E : Int) + 1, st := 3 } } := by
  have HC := hidI (logUndo_any h ok hu ho hx h1 h0 hf hp hroom hE)
  have c0 := cell_of_row w B 0 _ _ _ hB
  have b0 := cell_of_row w kb 0 _ _ _ hk
  have b1 := cell_of_row w kb 1 _ _ _ hk
  have b2 := cell_of_row w kb 2 _ _ _ hk
  have b3 := cell_of_row w kb 3 _ _ _ hk
  clear h ok hu hB hk ho hx h1 h0 hf hp hroom hE
  go_enter Tryz.func237, Tryz.ntmps237
  go_wp2_with fail
  refine HC.out.mono ?_
  rintro e w2 ⟨rfl, h2⟩
  go_wp2_with fail
  go_ret
  exact ⟨rfl, h2⟩
set_option maxHeartbeats 1000000 in
set_option maxRecDepth 100000 in
theorem un2 {w : World} {b : Bk} (h : BkAt w b) {B kb tb : Nat} (hB : w.heap[B]? = some (.cells #[.pointer (some ⟨b.bp, 0, none⟩)] 60)) (htb : w.cell? ⟨tb, 0, none⟩ = some (.pointer (some ⟨b.dp, 0, none⟩))) {pg off go n : Nat} (hk : BackBox w kb pg off go n) (hp : pg < b.x.pages) {old : List UInt8} (hn : Blk w go old) (h2 : old.length = n) (h0 : 0 < n) (hf : off + n ≤ 512) (hbo : go ∉ b.x.own) (hl1 : 1 ≤ b.t.und) (hl2 : b.t.und ≤ (b.x.y.E : Int)) :
    Calls Tryz.prog 239 #[.pointer (some ⟨B, 0, none⟩), .pointer (some ⟨kb, 0, none⟩), .pointer (some ⟨tb, 0, none⟩)] w fun e w' => e = .returned (.int .i64 0) ∧ ∃ x'', Chg b.x x'' pg off old b.t.und ∧ BStep w w' b { b with x := x'' } := by
  have HC : Hid (∀ w', Fr [] w w' → Calls Tryz.prog 69 #[.pointer (some ⟨b.x.pp, 0, none⟩), .agg #[.int .i64 (pg : Int), .int .i64 (off : Int), .slice none 0 0, .slice (some ⟨go, 0, none⟩) n n], .int .i64 b.t.und] w' fun e w'' => e = .returned (.int .i64 0) ∧ ∃ x'', Chg b.x x'' pg off old b.t.und ∧ BStep w w'' b { b with x := x'' }) := hidI (fun w' f => by
    refine (bchange_any (h.quiet f) hp off none 0 0 go n n old h2 h0 hf (hn.kept f (by simp)) hbo b.t.und hl1 hl2).mono ?_
    rintro e w'' ⟨he, x'', hc, st⟩
    exact ⟨he, x'', hc, (BStep.quiet h f).trans st⟩)
  have c0 := cell_of_row w B 0 _ _ _ hB
  have b0 := cell_of_row w kb 0 _ _ _ hk
  have b1 := cell_of_row w kb 1 _ _ _ hk
  have b2 := cell_of_row w kb 2 _ _ _ hk
  have b3 := cell_of_row w kb 3 _ _ _ hk
  have e2 : w.cell? ⟨b.bp, 2, none⟩ = some (.pointer (some ⟨b.x.pp, 0, none⟩)) := h.box.c2
  have d5 := h.dl.c5
  clear h hB hk hp hn h2 h0 hf hbo hl1 hl2
  go_enter Tryz.func239, Tryz.ntmps239
  go_wp2_with fail
  go_region_law ((go_simp; go_at_call 69; refine (HC.out _ (Fr.refl [] w).drew).mono ?_; rintro e w2 ⟨rfl, h2⟩))
  all_goals
    go_wp2_with fail
    go_ret
    exact ⟨rfl, h2⟩
set_option maxHeartbeats 1000000 in
set_option maxRecDepth 100000 in
theorem un3 {w : World} {b : Bk} (h : BkAt w b) {rb tb : Nat} (htb : w.cell? ⟨tb, 0, none⟩ = some (.pointer (some ⟨b.dp, 0, none⟩))) {nxt : Int} (hr : w.cell? ⟨rb, 4, none⟩ = some (.int .i64 nxt)) (hn1 : rb ≠ b.dp) (hn2 : tb ≠ b.dp) :
    Calls Tryz.prog 240 #[.pointer (some ⟨rb, 0, none⟩), .pointer (some ⟨tb, 0, none⟩)] w fun e w' => e = .returned (.int .i64 0) ∧ BStep w w' b { b with t := { b.t with next := nxt, und := 0 } } := by
  have d4 := h.dl.c4
  have d5 := h.dl.c5
  have z4 := h.dl.fz 4
  have z5 := h.dl.fz 5
  have HH := hidI h
  have hn1' := hn1.symm
  have hn2' := hn2.symm
  clear h
  go_enter Tryz.func240, Tryz.ntmps240
  go_wp2_with fail
  go_region
  go_wp2_with fail
  go_ret
  refine ⟨rfl, ?_⟩
  have D4 := HH.out.dl.s4 nxt
  have S4 := BStep.deal HH.out D4 (fr_set _ _ _ _)
  have D5 := S4.at'.dl.s5 0
  have S5 := BStep.deal S4.at' D5 (fr_set _ _ _ _)
  exact (S4.trans S5).trans (BStep.quiet S5.at' (Fr.refl [] _).drew)
end Go.Proofs.YtopaeomjndblkaaGreat


/-
  One change undone: its three steps.
-/
import Derived.Test.YthajipigppndgaaGreatY28Z
namespace Go.Proofs.YthajipigppndgaaGreat
open Go.RowKit Go.Maps
def lastRec (k : Nat) : Rec := ⟨0, 0, k, 0, 0, 0, 0, 0, [], []⟩
theorem lastRec_right {b : Bk} (h : TxOk b) (hE : b.x.y.E ≤ 400000) {k : Nat} (hk : k = 3 ∨ k = 4) : rightB { txRec b.t (lastRec k) with lsn := (b.x.y.E : Int) + 1, turn := (b.x.y.T : Int) } = true := by
  have a1 := h.num
  have a2 := h.last
  have a3 := h.t0
  have a4 := h.t1
  have e1 : headB { txRec b.t (lastRec k) with lsn := (b.x.y.E : Int) + 1, turn := (b.x.y.T : Int) } = true := by
    simp only [headB, txRec, lastRec, a1, a2, Bool.and_true, Bool.and_eq_true, decide_eq_true_eq]
    omega
  have e2 : kindB { txRec b.t (lastRec k) with lsn := (b.x.y.E : Int) + 1, turn := (b.x.y.T : Int) } = true := by
    rcases hk with rfl | rfl <;> rfl
  unfold rightB
  rw [e1, e2]
  rfl
theorem lastRec_size {b : Bk} {k : Nat} (hk : k = 3 ∨ k = 4) : (encL { txRec b.t (lastRec k) with lsn := (b.x.y.E : Int) + 1, turn := (b.x.y.T : Int) }).length = 35 := by
  rw [encL_length]
  rcases hk with rfl | rfl <;> simp [bodyL, b4L, b3L, txRec, lastRec, beK_length]
theorem addLast_any {w : World} {b : Bk} (h : BkAt w b) (ok : TxOk b) {k : Nat} (hk : k = 3 ∨ k = 4) (hroom : (35 : Int) ≤ b.room) (hE : b.x.y.E + 35 ≤ 400000) :
    Calls Tryz.prog 98 #[.pointer (some ⟨b.bp, 0, none⟩), .agg #[.int .i64 0, .int .i64 0, .int .u8 (k : Int), .int .i64 0, .int .i64 0, .int .i64 0, .int .i64 0, .int .i64 0, .slice none 0 0, .slice none 0 0]] w fun e w' => e = .returned (.int .i64 0) ∧ ∃ y', Appd b.x.y y' 35 (txRec b.t (lastRec k)) ∧ BStep w w' b { b with x := { b.x with y := y' }, t := { b.t with last := (b.x.y.E : Int) + 1 } } :=
  badd_any h (lastRec k) ⟨none, 0, none, 0⟩ ⟨fun j u hu => by simp [lastRec, arr] at hu, fun j u hu => by simp [lastRec, arr] at hu, (fun _ => ⟨rfl, rfl⟩), (fun _ => ⟨rfl, rfl⟩)⟩ (lastRec_right ok h.po.lo.hE hk) (lastRec_size hk) hroom hE
theorem InTx.ok {b : Bk} {H : List Ch} {V : Pages} (h : InTx b H V) (hE : b.x.y.E ≤ 400000) : TxOk b := ⟨h.num, by
  have h5 := h.nx
  rw [h.last]
  unfold placeB
  rw [decide_eq_true h5.1, decide_eq_true (by omega)]
  rfl, h.t0, h.t1⟩
theorem bforce_any {w : World} {b : Bk} (h : BkAt w b) : Calls Tryz.prog 51 #[.pointer (some ⟨b.x.y.p, 0, none⟩)] w fun e w' => e = .returned (.int .i64 0) ∧ ∃ y', Forced b.x.y y' ∧ y'.P = b.x.y.E ∧ Alike b.x { b.x with y := y' } ∧ BStep w w' b { b with x := { b.x with y := y' } } := by
  refine (lo_force h.po.lo).mono ?_
  rintro e w' ⟨he, y', L, FO, hP, how, f⟩
  have hpg : ∀ q, q < b.x.pages → pgD b.x.start y' q = pgD b.x.start b.x.y q := fun q hq => FO.pg h.po.dis hq
  have st := Step.lower h.po L f (fun k hk => by simp only [Lo.own, List.mem_append]; exact Or.inl hk) how FO.d FO.p FO.bs FO.bo FO.nb FO.first FO.count (Nat.le_of_eq FO.E.symm) hpg FO.lw
  exact ⟨he, y', FO, hP, val_y hpg, BStep.pool h st FO.d FO.p rfl h.hd0 (h.ls.kin FO.kin)⟩
set_option maxRecDepth 100000 in
theorem logCommit_any {w : World} {b : Bk} (h : BkAt w b) (ok : TxOk b) (h1 : b.t.st = 1) (hroom : (35 : Int) ≤ b.room) (hE : b.x.y.E + 35 ≤ 400000) :
    Calls Tryz.prog 49 #[.pointer (some ⟨b.bp, 0, none⟩)] w fun e w' => e = .returned (.int .i64 0) ∧ ∃ y', Appd b.x.y y' 35 (txRec b.t (lastRec 3)) ∧ BStep w w' b { b with x := { b.x with y := y' }, t := { b.t with last := (b.x.y.E : Int) + 1, st := 2 } } := by
  have HC := hidI (addLast_any h ok (Or.inl rfl) hroom hE)
  have c3 := h.box.c3
  have d0 := h.dl.c0
  rw [h1] at d0
  clear h ok hroom hE h1
  go_enter Tryz.func49, Tryz.ntmps49
  go_wp2_with fail
  refine HC.out.mono ?_
  rintro e w2 ⟨rfl, y', A2, B2⟩
  have e3 := B2.at'.box.c3
  have e0 := B2.at'.dl.c0
  have z0 := B2.at'.dl.fz 0
  have D2 := B2.at'.dl.s0 2
  have HB := hidI B2
  clear B2 c3 d0
  dsimp only at e3 e0 z0
  go_wp2_with fail
  go_ret
  exact ⟨rfl, y', A2, HB.out.trans (BStep.deal HB.out.at' D2 (fr_set _ _ _ _))⟩
theorem ddown_any {w : World} {p bs bo : Nat} {n a : Int} {S O : Dv.Tab} (h : Dv.Dev w p bs bo n a false S O) : Calls Tryz.prog 97 #[.pointer (some ⟨p, 0, none⟩)] w fun e w' => e = .returned (.bool false) ∧ w' = w := by
  have c1 := h.cell1
  go_enter Tryz.func97, Tryz.ntmps97
  go_wp2_with (go_at_call 168; refine (Dv.made_dev h).mono ?_; rintro e w' ⟨rfl, rfl⟩)
  go_ret
  exact ⟨rfl, rfl⟩
theorem bawake_any {w : World} {b : Bk} (h : BkAt w b) : Calls Tryz.prog 47 #[.pointer (some ⟨b.bp, 0, none⟩)] w fun e w' => e = .returned (.int .i64 0) ∧ w' = w := by
  have c0 := h.box.c0
  have HD := hidI h.po.lo.dev
  clear h
  go_enter Tryz.func47, Tryz.ntmps47
  go_wp2_with (go_at_call 97; refine (ddown_any HD.out).mono ?_; rintro e wz ⟨rfl, hz⟩; rw [hz]; clear hz)
  go_ret
  exact ⟨rfl, rfl⟩
structure Idle (b : Bk) (V : Pages) : Prop where
  t : b.t = dl0
  sh : Shows b.x V
  t0 : 1 ≤ b.x.y.T
  t1 : b.x.y.T ≤ 2147483647
def flC (B : Nat) : List (FuncId × List Value) := [(46, [.pointer (some ⟨B, 0, none⟩)]), (48, [.pointer (some ⟨B, 0, none⟩)]), (50, [.pointer (some ⟨B, 0, none⟩)]), (52, [.pointer (some ⟨B, 0, none⟩)])]
structure CmT (b b' : Bk) (V : Pages) : Prop where
  tr : Tr b b'
  sh : Shows b'.x V
  E : b'.x.y.E = b.x.y.E + 35
def CmI (w : World) (b : Bk) (V : Pages) : Nat → World → Prop
  | 0, wr => BStep w wr b b
  | 1, wr => BStep w wr b b
  | 2, wr => ∃ b', BStep w wr b b' ∧ CmT b b' V
  | 3, wr => ∃ b', BStep w wr b b' ∧ CmT b b' V ∧ b'.x.y.P = b'.x.y.E
  | _, wr => ∃ b', BStep w wr b b' ∧ CmT b b' V ∧ b'.x.y.P = b'.x.y.E ∧ b'.t = dl0
theorem CmI.st {w : World} {b : Bk} {V : Pages} {i : Nat} {wr : World} (h : CmI w b V i wr) : ∃ b', BStep w wr b b' := by
  match i, h with
  | 0, h => exact ⟨_, h⟩
  | 1, h => exact ⟨_, h⟩
  | 2, ⟨b', h, _⟩ => exact ⟨b', h⟩
  | 3, ⟨b', h, _⟩ => exact ⟨b', h⟩
  | n + 4, ⟨b', h, _⟩ => exact ⟨b', h⟩
section
variable {w : World} {b : Bk} {B : Nat} (hB : w.heap[B]? = some (.cells #[.pointer (some ⟨b.bp, 0, none⟩)] 32))
include hB
theorem cm1 (h : BkAt w b) : Calls Tryz.prog 46 #[.pointer (some ⟨B, 0, none⟩)] w fun e w' => e = .returned (.int .i64 0) ∧ w' = w := by
  have c0 := cell_of_row w B 0 _ _ _ hB
  have HC := hidI (bawake_any h)
  clear h hB
  go_enter Tryz.func46, Tryz.ntmps46
  go_wp2_with fail
  refine HC.out.mono ?_
  rintro e w2 ⟨rfl, rfl⟩
  go_wp2_with fail
  go_ret
  exact ⟨rfl, rfl⟩
theorem cm2 (h : BkAt w b) (ok : TxOk b) (h1 : b.t.st = 1) (hroom : (35 : Int) ≤ b.room) (hE : b.x.y.E + 35 ≤ 400000) : Calls Tryz.prog 48 #[.pointer (some ⟨B, 0, none⟩)] w fun e w' => e = .returned (.int .i64 0) ∧ ∃ y', Appd b.x.y y' 35 (txRec b.t (lastRec 3)) ∧ BStep w w' b { b with x := { b.x with y := y' }, t := { b.t with last := (b.x.y.E : Int) + 1, st := 2 } } := by
  have c0 := cell_of_row w B 0 _ _ _ hB
  have HC := hidI (logCommit_any h ok h1 hroom hE)
  clear h hB ok h1 hroom hE
  go_enter Tryz.func48, Tryz.ntmps48
  go_wp2_with fail
  refine HC.out.mono ?_
  rintro e w2 ⟨rfl, h2⟩
  go_wp2_with fail
  go_ret
  exact ⟨rfl, h2⟩
theorem cm3 (h : BkAt w b) : Calls Tryz.prog 50 #[.pointer (some ⟨B, 0, none⟩)] w fun e w' => e = .returned (.int .i64 0) ∧ ∃ y', Forced b.x.y y' ∧ y'.P = b.x.y.E ∧ Alike b.x { b.x with y := y' } ∧ BStep w w' b { b with x := { b.x with y := y' } } := by
  have c0 := cell_of_row w B 0 _ _ _ hB
  have c1 := h.box.c1
  have HC := hidI (bforce_any h)
  clear h hB
  go_enter Tryz.func50, Tryz.ntmps50
  go_wp2_with fail
  refine HC.out.mono ?_
  rintro e w2 ⟨rfl, h2⟩
  go_wp2_with fail
  go_ret
  exact ⟨rfl, h2⟩
theorem cm4 (h : BkAt w b) : Calls Tryz.prog 52 #[.pointer (some ⟨B, 0, none⟩)] w fun e w' => e = .returned (.int .i64 0) ∧ BStep w w' b { b with t := dl0 } := by
  have c0 := cell_of_row w B 0 _ _ _ hB
  have HC := hidI (leave_any h.box h.dl)
  have HH := hidI h
  clear h hB
  go_enter Tryz.func52, Tryz.ntmps52
  go_wp2_with fail
  refine HC.out.mono ?_
  rintro e w2 ⟨rfl, h2, f2⟩
  go_wp2_with fail
  go_ret
  exact ⟨rfl, BStep.deal HH.out h2 f2⟩
end
theorem Tr.st {b b' : Bk} (h : Tr b b') {t' : Dl} : Tr b { b' with t := t' } := ⟨h.pages, h.start, h.most, h.nb, h.first, h.count, h.T, h.A, h.lw, h.low⟩
theorem enC (w : World) (B : Nat) : ∀ (i : Nat) (p : FuncId × List Value), (flC B)[i]? = some p → (callFunc p.1 p.2.toArray).run Tryz.prog w = .ok (.enter p.1 p.2.toArray) w
  | 0, p, h => by cases h; go_simp
  | 1, p, h => by cases h; go_simp
  | 2, p, h => by cases h; go_simp
  | 3, p, h => by cases h; go_simp
  | n + 4, p, h => by simp [flC] at h
set_option maxHeartbeats 2000000 in
set_option maxRecDepth 100000 in
theorem commit_any {w : World} {b : Bk} (h : BkAt w b) {H : List Ch} {V : Pages} (tx : InTx b H V) (hE : b.x.y.E + 35 ≤ 400000) :
    Calls Tryz.prog 17 #[.pointer (some ⟨b.bp, 0, none⟩)] w fun e w' => e = .returned (.int .i64 0) ∧ ∃ b', BStep w w' b b' ∧ CmT b b' V ∧ b'.x.y.P = b'.x.y.E ∧ b'.t = dl0 := by
  have HH := hidI h
  have HT := hidI tx
  have hlt := hidI h.lt
  have fa : Fr [] w (w.alloc (.cells #[.pointer (some ⟨b.bp, 0, none⟩)] 32)) := (Fr.refl [] w).alloc _
  have hB := heap_alloc_new w (.cells #[.pointer (some ⟨b.bp, 0, none⟩)] 32)
  have hs1 : (w.alloc (.cells #[.pointer (some ⟨b.bp, 0, none⟩)] 32)).heap.size = w.heap.size + 1 := by simp
  obtain ⟨w1, hw1⟩ : ∃ w1, w.alloc (.cells #[.pointer (some ⟨b.bp, 0, none⟩)] 32) = w1 := ⟨_, rfl⟩
  rw [hw1] at fa hB hs1
  have c0 := cell_of_row w1 w.heap.size 0 _ _ _ hB
  have fb : Fr [] w1 (w1.alloc (.cells #[.int .i64 1, .int .i64 2] 86)) := (Fr.refl [] w1).alloc _
  have hst := heap_alloc_new w1 (.cells #[.int .i64 1, .int .i64 2] 86)
  have hs2 : (w1.alloc (.cells #[.int .i64 1, .int .i64 2] 86)).heap.size = w1.heap.size + 1 := by simp
  obtain ⟨w2, hw2⟩ : ∃ w2, w1.alloc (.cells #[.int .i64 1, .int .i64 2] 86) = w2 := ⟨_, rfl⟩
  rw [hw2] at fb hst hs2
  have B2 := hidI (h.quiet (fa.trans fb))
  have HS2 := hidI (cell_of_row w2 w1.heap.size 0 _ _ _ hst)
  rw [hs1] at HS2
  have hB2 := fb.same (by simp) hB
  clear h tx hst
  go_enter Tryz.func17, Tryz.ntmps17
  go_wp2_with (go_at_call 44; refine (within_in B2.out.box B2.out.dl HT.out.st (w.heap.size + 1) 2 2 (by omega) HS2.out).mono ?_; rintro e wz ⟨rfl, hz⟩; rw [hz]; clear hz)
  have fc : Fr [] w2 (w2.alloc (.cells #[.func (.func 46) #[] #[.pointer (some ⟨w.heap.size, 0, none⟩)], .func (.func 48) #[] #[.pointer (some ⟨w.heap.size, 0, none⟩)], .func (.func 50) #[] #[.pointer (some ⟨w.heap.size, 0, none⟩)], .func (.func 52) #[] #[.pointer (some ⟨w.heap.size, 0, none⟩)]] 53)) := (Fr.refl [] w2).alloc _
  have hfl := heap_alloc_new w2 (.cells #[.func (.func 46) #[] #[.pointer (some ⟨w.heap.size, 0, none⟩)], .func (.func 48) #[] #[.pointer (some ⟨w.heap.size, 0, none⟩)], .func (.func 50) #[] #[.pointer (some ⟨w.heap.size, 0, none⟩)], .func (.func 52) #[] #[.pointer (some ⟨w.heap.size, 0, none⟩)]] 53)
  rw [hs2, hs1] at hfl
  generalize (w2.alloc (.cells #[.func (.func 46) #[] #[.pointer (some ⟨w.heap.size, 0, none⟩)], .func (.func 48) #[] #[.pointer (some ⟨w.heap.size, 0, none⟩)], .func (.func 50) #[] #[.pointer (some ⟨w.heap.size, 0, none⟩)], .func (.func 52) #[] #[.pointer (some ⟨w.heap.size, 0, none⟩)]] 53)) = wt at fc hfl ⊢
  have hBt := fc.same (by simp) hB2
  have BT := B2.out.quiet fc
  have hout : ∀ j, w.heap.size ≤ j → j ∉ b.dp :: b.x.own := fun j hj hm => by
    have := hlt.out j (by rcases List.mem_cons.1 hm with e | e <;> simp [e])
    omega
  have hroom35 : (35 : Int) ≤ b.room := by
    have h1 := HT.out.room
    have h2 := keptOf_nonneg H
    unfold Bk.room
    omega
  refine (inTurn_ok wt (some ⟨w.heap.size + 1 + 1, 0, none⟩) 4 4 (flC w.heap.size) rfl (by omega) (CmI wt b V) (BStep.quiet BT (Fr.refl [] wt)) ?_ (fun i p hp w' => enC w' _ i p hp) ?_).mono ?_
  · intro i w' hI j p hp
    obtain ⟨b', st⟩ := hI.st
    have h3 := st.fr.same (hout (w.heap.size + 1 + 1) (by omega)) hfl
    refine ⟨_, rfl, ?_⟩
    rw [cell_of_row w' _ j _ _ _ h3]
    match j, hp with
    | 0, hp => cases hp; rfl
    | 1, hp => cases hp; rfl
    | 2, hp => cases hp; rfl
    | 3, hp => cases hp; rfl
    | n + 4, hp => simp [flC] at hp
  · intro i p hp w' hI
    have hbox : ∀ b', BStep wt w' b b' → w'.heap[w.heap.size]? = some (.cells #[.pointer (some ⟨b'.bp, 0, none⟩)] 32) := fun b' st => by
      rw [st.bp]
      exact st.fr.same (hout _ (Nat.le_refl _)) hBt
    match i, hp, hI with
    | 0, hp, hI =>
      cases hp
      refine (cm1 (hbox _ hI) hI.at').mono ?_
      rintro e w9 ⟨rfl, rfl⟩
      exact ⟨rfl, hI⟩
    | 1, hp, hI =>
      cases hp
      refine (cm2 (hbox _ hI) hI.at' (HT.out.ok (by omega)) HT.out.st hroom35 hE).mono ?_
      rintro e w9 ⟨rfl, y', ap, st⟩
      exact ⟨rfl, _, hI.trans st, Tr.appd ap, HT.out.sh.appd ap, ap.E⟩
    | 2, hp, ⟨b', st, ct⟩ =>
      cases hp
      refine (cm3 (hbox _ st) st.at').mono ?_
      rintro e w9 ⟨rfl, y', fo, hP, al, st2⟩
      exact ⟨rfl, _, st.trans st2, ⟨ct.tr.trans (Tr.pool (t' := b'.t) fo.kin rfl rfl rfl), ct.sh.alike al, by show y'.E = _; rw [fo.E]; exact ct.E⟩, by show y'.P = y'.E; rw [hP, fo.E]⟩
    | 3, hp, ⟨b', st, ct, hP⟩ =>
      cases hp
      refine (cm4 (hbox _ st) st.at').mono ?_
      rintro e w9 ⟨rfl, st2⟩
      exact ⟨rfl, _, st.trans st2, ⟨ct.tr.st, ct.sh, ct.E⟩, hP, rfl⟩
    | n + 4, hp, _ => simp [flC] at hp
  · rintro e w9 ⟨rfl, b', st, ct, hP, ht⟩
    go_wp2_with fail
    go_ret
    exact ⟨rfl, b', (BStep.quiet HH.out ((fa.trans fb).trans fc)).trans st, ct, hP, ht⟩
end Go.Proofs.YthajipigppndgaaGreat

namespace Go.Proofs.YthajipigppndgaaGreat
open Go.RowKit Go.Maps
structure UnTx (b : Bk) (H : List Ch) (V : Pages) : Prop where
  num : placeB b.t.num = true
  next : b.t.next = nextOf H
  und : b.t.und = 0
  last : 0 ≤ b.t.last ∧ b.t.last ≤ (b.x.y.E : Int)
  chain : Chain b.x.y b.t.num H
  pgs : ∀ c ∈ H, c.pg < b.x.pages
  sh : Shows b.x V
  t0 : 1 ≤ b.x.y.T
  t1 : b.x.y.T ≤ 2147483647
  room : keptOf H + 35 ≤ b.room
  E : (b.x.y.E : Int) + keptOf H + 35 ≤ 400000
  big : (b.x.y.E : Int) + keptOf H + 35 ≤ (b.x.y.A : Int) + 100000
  pgn : b.x.pages ≤ 65536
theorem InTx.un {b : Bk} {H : List Ch} {V : Pages} (h : InTx b H V) (hE : (b.x.y.E : Int) + keptOf H + 35 ≤ 400000) (hA : (b.x.y.E : Int) + keptOf H + 35 ≤ (b.x.y.A : Int) + 100000) (hp : b.x.pages ≤ 65536) : UnTx b H V :=
  ⟨h.num, h.next, h.und, by rw [h.last]; exact h.nx, h.chain, h.pgs, h.sh, h.t0, h.t1, h.room, hE, hA, hp⟩
theorem UnTx.kin {b : Bk} {H : List Ch} {V : Pages} (h : UnTx b H V) {x' : Po} (k : Kin b.x.y x'.y) (al : Alike b.x x') : UnTx { b with x := x' } H V :=
  ⟨h.num, h.next, h.und, by show 0 ≤ b.t.last ∧ b.t.last ≤ (x'.y.E : Int); rw [k.E]; exact h.last, h.chain.kin k, fun c hc => by show c.pg < x'.pages; rw [al.2.1]; exact h.pgs c hc, h.sh.alike al, by show 1 ≤ x'.y.T; rw [k.T]; exact h.t0, by show x'.y.T ≤ _; rw [k.T]; exact h.t1, by
    have := h.room
    unfold Bk.room at this ⊢
    show keptOf H + 35 ≤ 408 * (x'.y.count - 1) - ((x'.y.E : Int) - (x'.y.A : Int))
    rw [k.count, k.E, k.A]
    exact this, by show (x'.y.E : Int) + keptOf H + 35 ≤ 400000; rw [k.E]; exact h.E, by show (x'.y.E : Int) + keptOf H + 35 ≤ (x'.y.A : Int) + 100000; rw [k.E, k.A]; exact h.big, by show x'.pages ≤ 65536; rw [al.2.1]; exact h.pgn⟩
end Go.Proofs.YthajipigppndgaaGreat

namespace Go.Proofs.YthajipigppndgaaGreat
open Go.RowKit Go.Maps
theorem Alike.kk {x : Po} : Alike x x := Alike.refl x
end Go.Proofs.YthajipigppndgaaGreat

namespace Go.Proofs.YthajipigppndgaaGreat
open Go.RowKit Go.Maps
def undRec (pg off : Nat) (nxt : Int) (old : List UInt8) : Rec := ⟨0, 0, 2, 0, 0, nxt, (pg : Int), (off : Int), [], old⟩
theorem UnTx.ok {b : Bk} {H : List Ch} {V : Pages} (h : UnTx b H V) : TxOk b := ⟨h.num, by
  have h5 := h.last
  have h6 := h.E
  have h7 := keptOf_nonneg H
  unfold placeB
  rw [decide_eq_true h5.1, decide_eq_true (by omega)]
  rfl, h.t0, h.t1⟩
end Go.Proofs.YthajipigppndgaaGreat

namespace Go.Proofs.YthajipigppndgaaGreat
open Go.RowKit Go.Maps
end Go.Proofs.YthajipigppndgaaGreat


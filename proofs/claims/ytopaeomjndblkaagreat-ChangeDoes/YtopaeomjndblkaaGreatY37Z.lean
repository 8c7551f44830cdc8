/-
  The book's Point: all pages stand, a master says so, and the log begins anew.
-/
import Derived.Test.YtopaeomjndblkaaGreatY26Z
import Derived.Test.YtopaeomjndblkaaGreatY36Z
import Derived.Test.YtopaeomjndblkaaGreatY29Z
namespace Go.Proofs.YtopaeomjndblkaaGreat
open Go.RowKit Go.Maps

set_option maxHeartbeats 1000000 in
set_option maxRecDepth 100000 in
theorem following_any {w : World} {b : Bk} (h : BkAt w b) {m : Mst} (hm : Mas b.x.y.S b.x.y.O m) (hn : 2 ≤ b.x.y.nb) (hs : m.seq ≤ 1000000) :
    Calls Tryz.prog 115 #[.pointer (some ⟨b.bp, 0, none⟩)] w fun e w' => e = .returned (.tuple #[.agg (mV ⟨m.seq + 1, m.turn, (b.x.y.E : Int) + 1⟩), .int .i64 0]) ∧ Fr [] w w' := by
  have hE := h.po.lo.hE
  have s0 : 1 ≤ m.seq := by obtain ⟨_, _, _, _, _, hk⟩ := hm; exact hk.s0
  obtain ⟨p, q, r⟩ := m
  dsimp only at hs s0 ⊢
  have q1 : ¬ 2305843009213693952 ≤ p := by omega
  obtain ⟨EE, hEE⟩ : ∃ EE : Int, (b.x.y.E : Int) + 1 = EE := ⟨_, rfl⟩
  have q2 : ¬ 2305843009213693952 < EE := by omega
  rw [hEE]
  have HEN : Hid (∀ w', BkAt w' b → Calls Tryz.prog 77 #[.pointer (some ⟨b.x.y.p, 0, none⟩)] w' fun e w'' => e = .returned (.int .i64 EE) ∧ w'' = w') := hidI (fun w' h' => by rw [← hEE]; exact lo_end h'.po.lo)
  clear hEE hE
  have q3 : IntKind.i64.wrap (p + 1) = p + 1 := wrapI _ (by omega) (by omega)
  have q4 : decide (2305843009213693952 ≤ p) = false := decide_eq_false q1
  have q5 : decide (p ≥ 2305843009213693952) = false := decide_eq_false q1
  have q6 : p < 2305843009213693952 := by omega
  have f1 : Fr [] w (w.alloc (.cells #[.int .i64 0, .int .i64 0, .int .i64 0] 72)) := (Fr.refl [] w).alloc _
  have hM := heap_alloc_new w (.cells #[.int .i64 0, .int .i64 0, .int .i64 0] 72)
  obtain ⟨w1, hw1⟩ : ∃ w1, w.alloc (.cells #[.int .i64 0, .int .i64 0, .int .i64 0] 72) = w1 := ⟨_, rfl⟩
  rw [hw1] at f1 hM
  have B1 := hidI (h.quiet f1)
  have c0 := B1.out.box.c0
  have HM := hidI hm
  clear h hm
  go_enter Tryz.func115, Tryz.ntmps115
  go_wp2_with fail
  refine (mas_read B1.out.po.lo.dev hn HM.out).mono ?_
  unfold mV
  rintro e w2 ⟨rfl, f2⟩
  have f3 : Fr [] w2 (w2.alloc (.cells #[.int .i64 p, .int .i64 q, .int .i64 r] 72)) := (Fr.refl [] w2).alloc _
  have hN := heap_alloc_new w2 (.cells #[.int .i64 p, .int .i64 q, .int .i64 r] 72)
  obtain ⟨w3, hw3⟩ : ∃ w3, w2.alloc (.cells #[.int .i64 p, .int .i64 q, .int .i64 r] 72) = w3 := ⟨_, rfl⟩
  rw [hw3] at f3 hN
  have B3 := hidI (B1.out.quiet (f2.trans f3))
  have d1 := B3.out.box.c1
  have x0 := cell_of_row _ w2.heap.size 0 _ _ _ hN
  have x1 := cell_of_row _ w2.heap.size 1 _ _ _ hN
  have hM3 := (f2.trans f3).same (by simp) hM
  dsimp only
  go_wp2_with (first
    | (go_at_call 77; refine (HEN.out _ B3.out).mono ?_; rintro e w9 ⟨rfl, hz⟩; rw [hz]; clear hz)
    | (refine wp_storeM rfl _ _ rfl w.heap.size ⟨0, 0, 0⟩ ⟨p + 1, q, EE⟩ rfl rfl hM3 ?_; intro w7 r7 f7))
  exact bodyPost_ret (resM2 Tryz.results115 _ _ _ ⟨p + 1, q, EE⟩ rfl r7) rfl ⟨rfl, (f1.trans (f2.trans f3)).then f7 (fun i hi e => by simp at e; omega)⟩
/-- A book behind a checkpoint: its pages stand on the device, its log is empty. -/
structure Pntd (b b' : Bk) (m : Mst) : Prop where
  al : Alike b.x b'.x
  t : b'.t = b.t
  nb : b'.x.y.nb = b.x.y.nb
  first : b'.x.y.first = b.x.y.first
  count : b'.x.y.count = b.x.y.count
  T : b'.x.y.T = b.x.y.T
  A : b'.x.y.A = b.x.y.E
  E : b'.x.y.E = b.x.y.E
  lw : b'.x.y.lw = b.x.y.lw
  mas : Mas b'.x.y.S b'.x.y.O ⟨m.seq + 1, m.turn, (b.x.y.E : Int) + 1⟩
  on : ∀ q, q < b.x.pages → ∀ l, Val b.x q l → pgD b.x.start b'.x.y q = l
section
variable {w : World} {b : Bk} {B : Nat} (hB : w.heap[B]? = some (.cells #[.pointer (some ⟨b.bp, 0, none⟩)] 60))
include hB
theorem pn1 (h : BkAt w b) : Calls Tryz.prog 116 #[.pointer (some ⟨B, 0, none⟩)] w fun e w' => e = .returned (.int .i64 0) ∧ ∃ x', Flushed b.x x' ∧ BStep w w' b { b with x := x' } := by
  have c0 := cell_of_row w B 0 _ _ _ hB
  have c2 := h.box.c2
  have HC := hidI (flush_any h.po)
  have HH := hidI h
  clear h hB
  go_enter Tryz.func116, Tryz.ntmps116
  go_wp2_with fail
  refine HC.out.mono ?_
  rintro e w2 ⟨rfl, x', st, fl⟩
  have S2 := BStep.pool HH.out st fl.kin.d fl.kin.p fl.al.2.2.2.1 (by
    rw [fl.fs]
    intro f hf
    obtain ⟨g, hg, rfl⟩ := List.mem_map.1 hf
    exact HH.out.hd0 g hg) (HH.out.ls.kin fl.kin)
  have S2' := hidI S2
  clear S2 st
  go_wp2_with fail
  go_ret
  exact ⟨rfl, x', fl, S2'.out⟩
end
/-- The device is turned, none of the pages. -/
theorem BStep.dev {w w' : World} {b : Bk} (h : BkAt w b) {S' O' : Dv.Tab} (hd : Dv.Dev w' b.x.y.d b.x.y.bs b.x.y.bo b.x.y.nb 0 false S' O') (f : Fr [b.x.y.d, b.x.y.bs, b.x.y.bo] w w') (hpg : ∀ k : Int, 2 ≤ k → Dv.latest S' O' k = Dv.latest b.x.y.S b.x.y.O k) (hst : 2 ≤ b.x.start) :
    BStep w w' b { b with x := { b.x with y := { b.x.y with S := S', O := O' } } } := by
  have L2 := h.po.lo
  have hty : ∀ (t : TypeId), t ≠ 180 → ∀ g ∈ [b.x.y.d, b.x.y.bs, b.x.y.bo], ∀ cur t', w.heap[g]? = some (.cells cur t') → t' ≠ t := by
    intro t h1 g hg cur t' e et
    subst et
    simp only [List.mem_cons, List.not_mem_nil, or_false] at hg
    rcases hg with rfl | rfl | rfl
    · rw [L2.dev.cells] at e
      cases e
      exact h1 rfl
    · obtain ⟨D', ⟨es, clock, hb, _⟩, _⟩ := L2.dev.safe
      rw [hb] at e
      cases e
    · obtain ⟨D', ⟨es, clock, hb, _⟩, _⟩ := L2.dev.opn
      rw [hb] at e
      cases e
  have nin : ∀ k cur t, w.heap[k]? = some (.cells cur t) → t ≠ 180 → k ∉ [b.x.y.d, b.x.y.bs, b.x.y.bo] := fun k cur t hc h1 hk => hty t h1 k hk cur t hc rfl
  have LO : LoAt w' { b.x.y with S := S', O := O' } :=
    { L2 with
      dev := hd
      box := L2.box.kept f (nin _ _ _ L2.box (by decide))
      bsA := own0_kept L2.bsA f (hty 5 (by decide))
      lsA := own0_kept L2.lsA f (hty 2 (by decide)) }
  have st : Step w w' b.x { b.x with y := { b.x.y with S := S', O := O' } } := Step.lower h.po LO f (fun k hk => by simp only [List.mem_cons, List.not_mem_nil, or_false] at hk; simp only [Lo.own, List.mem_append, List.mem_cons, List.not_mem_nil, or_false]; rcases hk with e | e | e <;> simp [e]) (fun k hk => Or.inl hk) rfl rfl rfl rfl rfl rfl rfl (Nat.le_refl _) (fun q hq => hpg _ (by omega)) rfl
  exact BStep.pool h st rfl rfl rfl h.hd0 ⟨h.ls.rise, h.ls.le⟩
theorem LsAt.len {w : World} {ad : Option Addr} {n c : Nat} {ls : List Int} (h : LsAt w ad n c ls) : ls.length = n := by
  have h1 := h.1
  simpa [lsV] using h1
theorem bin_end {ls : List Int} {k : Int} {i : Nat} (h : BinAt ls k i) (hl : ∀ v ∈ ls, v < k) : i = ls.length := by
  have h1 := h.le
  by_cases e : i = ls.length
  · exact e
  · have hv := List.getElem?_eq_getElem (l := ls) (i := i) (by omega)
    have h2 := h.hi _ hv
    have h3 := hl _ (List.mem_of_getElem? hv)
    omega
theorem LsOk.bin {y : Lo} (h : LsOk y) {i : Nat} (hb : BinAt y.ls ((y.E : Int) + 1) i) : y.ls.drop i = [] := by
  rw [bin_end hb (fun v hv => by have := (h.le v hv).2; omega)]
  exact List.drop_length
section
variable {w : World} {b : Bk} {B M : Nat} (hB : w.heap[B]? = some (.cells #[.pointer (some ⟨b.bp, 0, none⟩)] 60)) {m : Mst} (hM : MBox w M m)
include hB hM
set_option maxHeartbeats 1000000 in
set_option maxRecDepth 100000 in
theorem pn2 (h : BkAt w b) (hm : MOk m) (hn : 24 ≤ b.x.y.nb) (hst : 2 ≤ b.x.start) : Calls Tryz.prog 117 #[.pointer (some ⟨B, 0, none⟩), .pointer (some ⟨M, 0, none⟩)] w fun e w' => e = .returned (.int .i64 0) ∧ BStep w w' b { b with x := { b.x with y := { b.x.y with S := Dv.over b.x.y.S (b.x.y.O.put (m.seq % 2) (mBytes m)), O := Dv.Tab.none } } } := by
  have c0 := cell_of_row w B 0 _ _ _ hB
  have e0 := h.box.c0
  have m0 := cell_of_row w M 0 _ _ _ hM
  have m1 := cell_of_row w M 1 _ _ _ hM
  have m2 := cell_of_row w M 2 _ _ _ hM
  have HC : Hid (∀ w', Fr [] w w' → Calls Tryz.prog 38 #[.pointer (some ⟨b.x.y.d, 0, none⟩), .agg #[.int .i64 m.seq, .int .i64 m.turn, .int .i64 m.old]] w' fun e w'' => e = .returned (.int .i64 0) ∧ BStep w w'' b { b with x := { b.x with y := { b.x.y with S := Dv.over b.x.y.S (b.x.y.O.put (m.seq % 2) (mBytes m)), O := Dv.Tab.none } } }) := hidI (fun w' f => by
    have B1 := h.quiet f
    refine (mw_any w' _ _ _ _ _ _ B1.po.lo.dev hn m hm).mono ?_
    rintro e w'' ⟨he, hd, hf⟩
    refine ⟨he, (BStep.quiet h f).trans (BStep.dev B1 hd hf (fun k hk => ?_) hst)⟩
    rw [latest_sync, latest_put, if_neg (by omega)])
  clear h hB hM hm
  go_enter Tryz.func117, Tryz.ntmps117
  go_wp2_with fail
  go_region_law ((go_simp; go_at_call 38; refine (HC.out _ (Fr.refl [] w).drew).mono ?_; rintro e w2 ⟨rfl, h2⟩))
  all_goals
    go_wp2_with fail
    go_ret
    exact ⟨rfl, h2⟩
set_option maxHeartbeats 1000000 in
set_option maxRecDepth 100000 in
theorem pn3 (h : BkAt w b) (hm : m.old = (b.x.y.E : Int) + 1) : Calls Tryz.prog 118 #[.pointer (some ⟨B, 0, none⟩), .pointer (some ⟨M, 0, none⟩)] w fun e w' => e = .returned (.int .i64 0) ∧ ∃ y', Trimd b.x.y y' b.x.y.E ∧ BStep w w' b { b with x := { b.x with y := y' } } := by
  have c0 := cell_of_row w B 0 _ _ _ hB
  have e1 := h.box.c1
  have m2 := cell_of_row w M 2 _ _ _ hM
  rw [show (#[Value.int .i64 m.seq, .int .i64 m.turn, .int .i64 m.old] : Array Value)[2]? = some (.int .i64 ((b.x.y.E : Int) + 1)) by rw [← hm]; rfl] at m2
  have HC : Hid (∀ w', Fr [] w w' → Calls Tryz.prog 119 #[.pointer (some ⟨b.x.y.p, 0, none⟩), .int .i64 ((b.x.y.E : Int) + 1)] w' fun e w'' => e = .returned (.int .i64 0) ∧ ∃ y', Trimd b.x.y y' b.x.y.E ∧ BStep w w'' b { b with x := { b.x with y := y' } }) := hidI (fun w' f => by
    have B1 := h.quiet f
    refine (lo_trim B1.po.lo B1.po.lo.lsA.len b.x.y.E B1.po.lo.hAE (Nat.le_refl _) (fun i _ => Or.inr rfl)).mono ?_
    rintro e w'' ⟨he, y', i, L, tr, bi, hls, _, how, hf⟩
    refine ⟨he, y', tr, (BStep.quiet h f).trans ?_⟩
    have st : Step w' w'' b.x { b.x with y := y' } := Step.lower B1.po L hf (fun k hk => by simp only [List.mem_cons, List.not_mem_nil, or_false] at hk; simp [Lo.own, hk]) how tr.d tr.p tr.bs tr.bo tr.nb tr.first tr.count (by rw [tr.E]; exact Nat.le_refl _) (fun q hq => by unfold pgD; rw [tr.S, tr.O]) tr.lw
    refine BStep.pool B1 st tr.d tr.p rfl B1.hd0 ⟨?_, ?_⟩
    · show y'.ls.Pairwise _
      rw [hls, B1.ls.bin bi]
      exact List.Pairwise.nil
    · show ∀ v ∈ y'.ls, _
      rw [hls, B1.ls.bin bi]
      exact fun v hv => nomatch hv)
  clear h hB hM hm
  go_enter Tryz.func118, Tryz.ntmps118
  go_wp2_with fail
  go_region_law ((go_simp; go_at_call 119; refine (HC.out _ (Fr.refl [] w).drew).mono ?_; rintro e w2 ⟨rfl, h2⟩))
  all_goals
    go_wp2_with fail
    go_ret
    exact ⟨rfl, h2⟩
end
def flP (B M : Nat) : List (FuncId × List Value) := [(116, [.pointer (some ⟨B, 0, none⟩)]), (117, [.pointer (some ⟨B, 0, none⟩), .pointer (some ⟨M, 0, none⟩)]), (118, [.pointer (some ⟨B, 0, none⟩), .pointer (some ⟨M, 0, none⟩)])]
theorem enP (w : World) (B M : Nat) : ∀ (i : Nat) (p : FuncId × List Value), (flP B M)[i]? = some p → (callFunc p.1 p.2.toArray).run Tryz.prog w = .ok (.enter p.1 p.2.toArray) w
  | 0, p, h => by cases h; go_simp
  | 1, p, h => by cases h; go_simp
  | 2, p, h => by cases h; go_simp
  | n + 3, p, h => by simp [flP] at h
/-- What a book is behind the first step of Point, and behind the second. -/
structure Pn1 (b b' : Bk) : Prop where
  fl : Flushed b.x b'.x
  t : b'.t = b.t
structure Pn2 (b b' : Bk) (m' : Mst) : Prop where
  al : Alike b.x b'.x
  t : b'.t = b.t
  nb : b'.x.y.nb = b.x.y.nb
  first : b'.x.y.first = b.x.y.first
  count : b'.x.y.count = b.x.y.count
  T : b'.x.y.T = b.x.y.T
  E : b'.x.y.E = b.x.y.E
  lw : b'.x.y.lw = b.x.y.lw
  mas : Mas b'.x.y.S b'.x.y.O m'
  on : ∀ q, q < b.x.pages → ∀ l, Val b.x q l → pgD b.x.start b'.x.y q = l
def PnI (wt : World) (b : Bk) (m : Mst) : Nat → World → Prop
  | 0, wr => BStep wt wr b b
  | 1, wr => ∃ b', BStep wt wr b b' ∧ Pn1 b b'
  | 2, wr => ∃ b', BStep wt wr b b' ∧ Pn2 b b' ⟨m.seq + 1, m.turn, (b.x.y.E : Int) + 1⟩
  | _, wr => ∃ b', BStep wt wr b b' ∧ Pntd b b' m
theorem PnI.st {wt : World} {b : Bk} {m : Mst} {i : Nat} {wr : World} (h : PnI wt b m i wr) : ∃ b', BStep wt wr b b' := by
  match i, h with
  | 0, h => exact ⟨_, h⟩
  | 1, ⟨b', h, _⟩ => exact ⟨b', h⟩
  | 2, ⟨b', h, _⟩ => exact ⟨b', h⟩
  | n + 3, ⟨b', h, _⟩ => exact ⟨b', h⟩
theorem Pn1.then {b b' : Bk} {m : Mst} (h : Pn1 b b') (hlw : 2 ≤ b.x.y.lw) (hst : 2 ≤ b.x.start) (hm : Mas b.x.y.S b.x.y.O m) {m' : Mst} (hk : MOk m') (hs : m'.seq = m.seq + 1) : Pn2 b { b' with x := { b'.x with y := { b'.x.y with S := Dv.over b'.x.y.S (b'.x.y.O.put (m'.seq % 2) (mBytes m')), O := Dv.Tab.none } } } m' := by
  have k := h.fl.kin
  have hl : ∀ j : Int, 2 ≤ j → Dv.latest (Dv.over b'.x.y.S (b'.x.y.O.put (m'.seq % 2) (mBytes m'))) Dv.Tab.none j = Dv.latest b'.x.y.S b'.x.y.O j := fun j hj => by rw [latest_sync, latest_put, if_neg (by omega)]
  have e1 := h.fl.al.1
  refine ⟨h.fl.al.trans (val_y (fun q _ => hl _ (by rw [e1]; omega))), h.t, k.nb, k.first, k.count, k.T, k.E, k.lw, ?_, fun q hq l hv => ?_⟩
  · have m1 : Mas b'.x.y.S b'.x.y.O m := hm.like (fun j hj => k.low j (by omega))
    exact (m1.put hk hs).like (fun j _ => latest_sync _ _ j)
  · show Dv.latest _ _ _ = l
    rw [hl _ (by omega)]
    exact h.fl.on q hq l hv
theorem Pn2.then {b b' : Bk} {m : Mst} (h : Pn2 b b' ⟨m.seq + 1, m.turn, (b.x.y.E : Int) + 1⟩) {y' : Lo} (tr : Trimd b'.x.y y' b'.x.y.E) : Pntd b { b' with x := { b'.x with y := y' } } m :=
  ⟨h.al.trans (val_y (fun q _ => by unfold pgD; rw [tr.S, tr.O])), h.t, tr.nb.trans h.nb, tr.first.trans h.first, tr.count.trans h.count, tr.T.trans h.T, tr.A.trans h.E, tr.E.trans h.E, tr.lw.trans h.lw, by
    show Mas y'.S y'.O _
    rw [tr.S, tr.O]
    exact h.mas, fun q hq l hv => by
    show Dv.latest y'.S y'.O _ = l
    rw [tr.S, tr.O]
    exact h.on q hq l hv⟩
set_option maxHeartbeats 2000000 in
set_option maxRecDepth 100000 in
theorem point_any {w : World} {b : Bk} (h : BkAt w b) (ht : b.t = dl0) {m : Mst} (hm : Mas b.x.y.S b.x.y.O m) (hn : 24 ≤ b.x.y.nb) (hs : m.seq ≤ 1000000) (hst : 2 ≤ b.x.start) (hlw : 2 ≤ b.x.y.lw) :
    Calls Tryz.prog 34 #[.pointer (some ⟨b.bp, 0, none⟩)] w fun e w' => e = .returned (.int .i64 0) ∧ ∃ b', BStep w w' b b' ∧ Pntd b b' m := by
  have HH := hidI h
  have HM := hidI hm
  have h0 : b.t.st = 0 := by rw [ht]; rfl
  have hlt := hidI h.lt
  have hE := h.po.lo.hE
  have HK : Hid (MOk ⟨m.seq + 1, m.turn, (b.x.y.E : Int) + 1⟩) := hidI (by
    obtain ⟨_, _, _, _, _, hk⟩ := hm
    have h1 := hk.s0
    exact ⟨by show 1 ≤ m.seq + 1; omega, by show m.seq + 1 < _; omega, hk.t0, hk.t1, by show 1 ≤ (b.x.y.E : Int) + 1; omega, by show (b.x.y.E : Int) + 1 ≤ _; omega⟩)
  have fa : Fr [] w (w.alloc (.cells #[.pointer (some ⟨b.bp, 0, none⟩)] 60)) := (Fr.refl [] w).alloc _
  have hB := heap_alloc_new w (.cells #[.pointer (some ⟨b.bp, 0, none⟩)] 60)
  have hs1 : (w.alloc (.cells #[.pointer (some ⟨b.bp, 0, none⟩)] 60)).heap.size = w.heap.size + 1 := by simp
  obtain ⟨w1, hw1⟩ : ∃ w1, w.alloc (.cells #[.pointer (some ⟨b.bp, 0, none⟩)] 60) = w1 := ⟨_, rfl⟩
  rw [hw1] at fa hB hs1
  have c0 := cell_of_row w1 w.heap.size 0 _ _ _ hB
  have B1 := hidI (h.quiet fa)
  clear h hm
  go_enter Tryz.func34, Tryz.ntmps34
  go_wp2_with (go_at_call 94; refine (idle_out B1.out.box B1.out.dl h0).mono ?_; rintro e wz ⟨rfl, hz⟩; rw [hz]; clear hz)
  refine (following_any B1.out HM.out (by omega) hs).mono ?_
  unfold mV
  rintro e w2 ⟨rfl, f2⟩
  dsimp only
  have f3 : Fr [] w2 (w2.alloc (.cells #[.int .i64 (m.seq + 1), .int .i64 m.turn, .int .i64 ((b.x.y.E : Int) + 1)] 72)) := (Fr.refl [] w2).alloc _
  have hN := heap_alloc_new w2 (.cells #[.int .i64 (m.seq + 1), .int .i64 m.turn, .int .i64 ((b.x.y.E : Int) + 1)] 72)
  have hs3 : (w2.alloc (.cells #[.int .i64 (m.seq + 1), .int .i64 m.turn, .int .i64 ((b.x.y.E : Int) + 1)] 72)).heap.size = w2.heap.size + 1 := by simp
  obtain ⟨w3, hw3⟩ : ∃ w3, w2.alloc (.cells #[.int .i64 (m.seq + 1), .int .i64 m.turn, .int .i64 ((b.x.y.E : Int) + 1)] 72) = w3 := ⟨_, rfl⟩
  rw [hw3] at f3 hN hs3
  go_wp2_with fail
  have fc : Fr [] w3 (w3.alloc (.cells #[.func (.func 116) #[] #[.pointer (some ⟨w.heap.size, 0, none⟩)], .func (.func 117) #[] #[.pointer (some ⟨w.heap.size, 0, none⟩), .pointer (some ⟨w2.heap.size, 0, none⟩)], .func (.func 118) #[] #[.pointer (some ⟨w.heap.size, 0, none⟩), .pointer (some ⟨w2.heap.size, 0, none⟩)]] 77)) := (Fr.refl [] w3).alloc _
  have hfl := heap_alloc_new w3 (.cells #[.func (.func 116) #[] #[.pointer (some ⟨w.heap.size, 0, none⟩)], .func (.func 117) #[] #[.pointer (some ⟨w.heap.size, 0, none⟩), .pointer (some ⟨w2.heap.size, 0, none⟩)], .func (.func 118) #[] #[.pointer (some ⟨w.heap.size, 0, none⟩), .pointer (some ⟨w2.heap.size, 0, none⟩)]] 77)
  rw [hs3] at hfl
  generalize (w3.alloc (.cells #[.func (.func 116) #[] #[.pointer (some ⟨w.heap.size, 0, none⟩)], .func (.func 117) #[] #[.pointer (some ⟨w.heap.size, 0, none⟩), .pointer (some ⟨w2.heap.size, 0, none⟩)], .func (.func 118) #[] #[.pointer (some ⟨w.heap.size, 0, none⟩), .pointer (some ⟨w2.heap.size, 0, none⟩)]] 77)) = wt at fc hfl ⊢
  have hBt := fc.same (by simp) (f3.same (by simp) (f2.same (by simp) hB))
  have hNt : MBox wt w2.heap.size ⟨m.seq + 1, m.turn, (b.x.y.E : Int) + 1⟩ := fc.same (by simp) hN
  have ft := fa.trans (f2.trans (f3.trans fc))
  have BT := HH.out.quiet ft
  have le2 : w.heap.size ≤ w2.heap.size := (fa.trans f2).size
  have hout : ∀ j, w.heap.size ≤ j → j ∉ b.dp :: b.x.own := fun j hj hm => by
    have := hlt.out j (by rcases List.mem_cons.1 hm with e | e <;> simp [e])
    omega
  refine (inTurn_ok wt (some ⟨w2.heap.size + 1, 0, none⟩) 3 3 (flP w.heap.size w2.heap.size) rfl (by omega) (PnI wt b m) (BStep.quiet BT (Fr.refl [] wt)) ?_ (fun i p hp w' => enP w' _ _ i p hp) ?_).mono ?_
  · intro i w' hI j p hp
    obtain ⟨b', st⟩ := hI.st
    have h3 := st.fr.same (hout (w2.heap.size + 1) (by omega)) hfl
    refine ⟨_, rfl, ?_⟩
    rw [cell_of_row w' _ j _ _ _ h3]
    match j, hp with
    | 0, hp => cases hp; rfl
    | 1, hp => cases hp; rfl
    | 2, hp => cases hp; rfl
    | n + 3, hp => simp [flP] at hp
  · intro i p hp w' hI
    have hbox : ∀ b', BStep wt w' b b' → w'.heap[w.heap.size]? = some (.cells #[.pointer (some ⟨b'.bp, 0, none⟩)] 60) := fun b' st => by
      rw [st.bp]
      exact st.fr.same (hout _ (Nat.le_refl _)) hBt
    have hmb : ∀ b', BStep wt w' b b' → MBox w' w2.heap.size ⟨m.seq + 1, m.turn, (b.x.y.E : Int) + 1⟩ := fun b' st => st.fr.same (hout _ le2) hNt
    match i, hp, hI with
    | 0, hp, hI =>
      cases hp
      refine (pn1 (hbox _ hI) hI.at').mono ?_
      rintro e w9 ⟨rfl, x', fl, st⟩
      exact ⟨rfl, _, hI.trans st, fl, rfl⟩
    | 1, hp, ⟨b', st, ct⟩ =>
      cases hp
      refine (pn2 (hbox _ st) (hmb _ st) st.at' HK.out (by rw [ct.fl.kin.nb]; exact hn) (by rw [ct.fl.al.1]; exact hst)).mono ?_
      rintro e w9 ⟨rfl, st2⟩
      exact ⟨rfl, _, st.trans st2, ct.then hlw hst HM.out HK.out rfl⟩
    | 2, hp, ⟨b', st, ct⟩ =>
      cases hp
      refine (pn3 (hbox _ st) (hmb _ st) st.at' (by rw [ct.E])).mono ?_
      rintro e w9 ⟨rfl, y', tr, st2⟩
      exact ⟨rfl, _, st.trans st2, ct.then tr⟩
    | n + 3, hp, _ => simp [flP] at hp
  · rintro e w9 ⟨rfl, b', st, ct⟩
    go_wp2_with fail
    go_ret
    exact ⟨rfl, b', (BStep.quiet HH.out ft).trans st, ct⟩
end Go.Proofs.YtopaeomjndblkaaGreat


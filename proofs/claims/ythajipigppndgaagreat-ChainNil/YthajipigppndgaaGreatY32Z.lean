/-
  The restoring's begin, on a device that was just formatted.
-/
import Derived.Test.YthajipigppndgaaGreatY31Z
import Derived.Conc.LoneSelectN
import Derived.Conc.LoneCalls
namespace Go.Proofs.YthajipigppndgaaGreat
open Go.RowKit Go.Maps
open Pg (SpE diffS byteAt)
theorem BkAt.blk {w w' : World} {b : Bk} (h : BkAt w b) {g : Nat} {l : List UInt8} (hb : Blk w g l) (f : Fr [g] w w') (ho : g ∉ b.x.own) : BkAt w' b := by
  have e1 : b.bp ≠ g := fun e => by
    have h1 := h.box
    unfold BBox at h1
    rw [e] at h1
    have h2 : w.heap[g]? = some (.cells (arr l) 5) := hb
    rw [h2] at h1
    simp at h1
  have e2 : b.dp ≠ g := fun e => by
    have h1 := h.dl
    unfold DlAt at h1
    rw [e] at h1
    have h2 : w.heap[g]? = some (.cells (arr l) 5) := hb
    rw [h2] at h1
    simp at h1
  have e3 : b.x.pp ≠ g := fun e => by
    have h1 := h.po.box
    unfold PBox' at h1
    rw [e] at h1
    have h2 : w.heap[g]? = some (.cells (arr l) 5) := hb
    rw [h2] at h1
    simp at h1
  refine h.kept f (by simpa using e1) (by simpa using e2) (fun k hk hm => ?_)
  have e : k = g := by simpa using hm
  subst e
  rcases List.mem_cons.1 hk with e | e
  · exact e3 e.symm
  · exact ho e
structure Ab (w0 w : World) (bp : Nat) (b : Bk) (K : List (Nat × Obj)) : Prop where
  bk : BkAt w b
  fr : Fr [] w0 w
  new : ∀ k ∈ b.dp :: b.x.own, w0.heap.size ≤ k
  ebp : b.bp = bp
  kp : ∀ p ∈ K, w.heap[p.1]? = some p.2 ∧ p.1 ∉ b.dp :: b.x.own
theorem Ab.go {w0 w w' : World} {bp : Nat} {b b' : Bk} {K : List (Nat × Obj)} (h : Ab w0 w bp b K) (st : BStep w w' b b') : Ab w0 w' bp b' K := by
  refine ⟨st.at', h.fr.then st.fr (fun i hi hm => by have := h.new i hm; omega), fun k hk => ?_, st.bp.trans h.ebp, fun p hp => ⟨st.fr.same (h.kp p hp).2 (h.kp p hp).1, fun hm => ?_⟩⟩
  · rcases List.mem_cons.1 hk with e | e
    · rw [e, st.dp]
      exact h.new _ List.mem_cons_self
    · rcases st.ow k e with h1 | h1
      · exact h.new k (List.mem_cons_of_mem _ h1)
      · exact Nat.le_trans h.fr.size h1
  · rcases List.mem_cons.1 hm with e | e
    · exact (h.kp p hp).2 (by rw [e, st.dp]; exact List.mem_cons_self)
    · rcases st.ow _ e with h1 | h1
      · exact (h.kp p hp).2 (List.mem_cons_of_mem _ h1)
      · have := (Array.getElem?_eq_some_iff.1 (h.kp p hp).1).1
        omega
theorem Ab.quiet {w0 w w' : World} {bp : Nat} {b : Bk} {K : List (Nat × Obj)} (h : Ab w0 w bp b K) (f : Fr [] w w') : Ab w0 w' bp b K := ⟨h.bk.quiet f, h.fr.trans f, h.new, h.ebp, fun p hp => ⟨f.same (by simp) (h.kp p hp).1, (h.kp p hp).2⟩⟩
theorem Ab.less {w0 w : World} {bp : Nat} {b : Bk} {K K' : List (Nat × Obj)} (h : Ab w0 w bp b K) (hk : ∀ p ∈ K', p ∈ K) : Ab w0 w bp b K' := ⟨h.bk, h.fr, h.new, h.ebp, fun p hp => h.kp p (hk p hp)⟩
theorem Ab.add {w0 w : World} {bp : Nat} {b : Bk} {K : List (Nat × Obj)} (h : Ab w0 w bp b K) {g : Nat} {o : Obj} (hg : w.heap[g]? = some o) (hn : g ∉ b.dp :: b.x.own) : Ab w0 w bp b ((g, o) :: K) := ⟨h.bk, h.fr, h.new, h.ebp, fun p hp => by
  rcases List.mem_cons.1 hp with rfl | hp
  · exact ⟨hg, hn⟩
  · exact h.kp p hp⟩
theorem Ab.put {w0 w w' : World} {bp : Nat} {b : Bk} {K : List (Nat × Obj)} (h : Ab w0 w bp b K) {g : Nat} (f : Fr [g] w w') (h1 : b.bp ≠ g) (h2 : g ∉ b.dp :: b.x.own) (h3 : b.x.pp ≠ g) (hg : w0.heap.size ≤ g) (hK : ∀ p ∈ K, p.1 ≠ g) : Ab w0 w' bp b K :=
  ⟨h.bk.kept f (by simpa using h1) (fun e => h2 (by simp at e; simp [e])) (fun k hk e => by
    have e' : k = g := by simpa using e
    subst e'
    rcases List.mem_cons.1 hk with e | e
    · exact h3 e.symm
    · exact h2 (List.mem_cons_of_mem _ e)), h.fr.then f (fun i hi hm => by simp at hm; omega), h.new, h.ebp, fun p hp => ⟨f.same (by simpa using hK p hp) (h.kp p hp).1, (h.kp p hp).2⟩⟩
theorem BkAt.away {w : World} {b : Bk} (h : BkAt w b) {g : Nat} {cur : Array Value} {t : TypeId} (hg : w.heap[g]? = some (.cells cur t)) (h1 : t ≠ 153 ∧ t ≠ 168 ∧ t ≠ 5 ∧ t ≠ 2) (h2 : t ≠ 200 ∧ t ≠ 195 ∧ t ≠ 315) (h3 : t ≠ 140) (h4 : t ≠ 93 ∧ t ≠ 38) : b.bp ≠ g ∧ g ∉ b.dp :: b.x.own ∧ b.x.pp ≠ g := by
  have h5 := po_notin h.po hg h1 h2 h3
  refine ⟨fun e => ?_, fun hm => ?_, fun e => h5 (by rw [e]; exact List.mem_cons_self)⟩
  · have h6 := h.box
    unfold BBox at h6
    rw [e, hg] at h6
    cases h6
    exact h4.2 rfl
  · rcases List.mem_cons.1 hm with e | e
    · have h6 := h.dl
      unfold DlAt at h6
      rw [← e, hg] at h6
      cases h6
      exact h4.1 rfl
    · exact h5 (List.mem_cons_of_mem _ e)
theorem BkAt.awayB {w : World} {b : Bk} (h : BkAt w b) {g : Nat} {cur : Array Value} (hg : w.heap[g]? = some (.cells cur 5)) : b.bp ≠ g ∧ b.x.pp ≠ g := by
  refine ⟨fun e => ?_, fun e => ?_⟩
  · have h6 := h.box
    unfold BBox at h6
    rw [e, hg] at h6
    simp at h6
  · have h6 := h.po.box
    unfold PBox' at h6
    rw [e, hg] at h6
    simp at h6
theorem Ab.blk {w0 w w' : World} {bp : Nat} {b : Bk} {K : List (Nat × Obj)} (h : Ab w0 w bp b K) {g : Nat} {cur : Array Value} (hb : w.heap[g]? = some (.cells cur 5)) (f : Fr [g] w w') (ho : g ∉ b.dp :: b.x.own) (hg : w0.heap.size ≤ g) (hK : ∀ p ∈ K, p.1 ≠ g) : Ab w0 w' bp b K := h.put f (h.bk.awayB hb).1 ho (h.bk.awayB hb).2 hg hK
section
variable {w0 w : World} {bp : Nat} {b : Bk} {K : List (Nat × Obj)} (h : Ab w0 w bp b K) {nb : Nat} {m : Mst} (en : Env b nb m)
include h
theorem ab_page {V : Pages} (hv : Shows b.x V) {page : Nat} (hp : page < b.x.pages) :
    Calls Tryz.prog 106 #[.pointer (some ⟨bp, 0, none⟩), .int .i64 (page : Int)] w fun e w' => ∃ g b', e = .returned (.tuple #[.slice (some ⟨g, 0, none⟩) 512 512, .int .i64 0]) ∧ Hid (Ab w0 w' bp b' K ∧ PgTo w w' b (V page) g b') := by
  have h1 := page_to h.bk hv hp
  rw [h.ebp] at h1
  refine h1.mono ?_
  rintro e w' ⟨g, b', he, P⟩
  exact ⟨g, b', he, hidI ⟨h.go P.st, P⟩⟩
include en
theorem ab_beg {V : Pages} (hi : Idle b V) (hs : m.seq ≤ 1000000) :
    Calls Tryz.prog 21 #[.pointer (some ⟨bp, 0, none⟩)] w fun e w' => e = .returned (.int .i64 0) ∧ ∃ b' m', Hid (Ab w0 w' bp b' K ∧ BegTo w w' b nb m V b' m') := by
  have h1 := beg_to h.bk en hi hs
  rw [h.ebp] at h1
  refine h1.mono ?_
  rintro e w' ⟨he, b', m', B⟩
  exact ⟨he, b', m', hidI ⟨h.go B.st, B⟩⟩
theorem ab_com {H : List Ch} {V : Pages} (tx : InTx b H V) (hE : b.x.y.E ≤ 399000) :
    Calls Tryz.prog 17 #[.pointer (some ⟨bp, 0, none⟩)] w fun e w' => e = .returned (.int .i64 0) ∧ ∃ b', Hid (Ab w0 w' bp b' K ∧ ComTo w w' b nb m V b') := by
  have h1 := com_to h.bk en tx hE
  rw [h.ebp] at h1
  refine h1.mono ?_
  rintro e w' ⟨he, b', B⟩
  exact ⟨he, b', hidI ⟨h.go B.st, B⟩⟩
theorem ab_put {H : List Ch} {V : Pages} (tx : InTx b H V) {page : Nat} (hp : page < b.x.pages) {g c : Nat} {data : List UInt8} (hd : data.length = 512) (hc : 512 ≤ c) (hb : BytesAt w (some ⟨g, 0, none⟩) data) (hgo : g ∉ b.dp :: b.x.own) (hE : b.x.y.E ≤ 390000) :
    Calls Tryz.prog 37 #[.pointer (some ⟨bp, 0, none⟩), .int .i64 (page : Int), .slice (some ⟨g, 0, none⟩) 512 c] w fun e w' => ∃ r : Int, e = .returned (.int .i64 r) ∧ Hid (∃ S : List SpE, S.map (fun e => (e.off, e.off + e.n)) = diffS (V page) data ∧ ((r = 5 ∧ b.room < keptOf H + 35 + sumN S ∧ ∃ b', Ab w0 w' bp b' K ∧ PutNo w w' b H V b') ∨ (r = 0 ∧ keptOf H + 35 + sumN S ≤ b.room ∧ ∃ b' H', Ab w0 w' bp b' K ∧ PutOk w w' b H V page data S b' H'))) := by
  have h1 := put_to h.bk en tx hp hd hc hb hgo hE
  rw [h.ebp] at h1
  refine h1.mono ?_
  rintro e w' ⟨r, he, S, hS, pt⟩
  refine ⟨r, he, hidI ⟨S, hS, ?_⟩⟩
  rcases pt with ⟨h1, h2, b', h3⟩ | ⟨h1, h2, b', H', h3⟩
  · exact Or.inl ⟨h1, h2, b', h.go h3.st, h3⟩
  · exact Or.inr ⟨h1, h2, b', H', h.go h3.st, h3⟩
end
theorem PutOk.env {w w' : World} {b : Bk} {H : List Ch} {V : Pages} {page : Nat} {data : List UInt8} {S : List SpE} {b' : Bk} {H' : List Ch} (h : PutOk w w' b H V page data S b' H') {nb : Nat} {m : Mst} (en : Env b nb m) : Env b' nb m := en.tr h.tr
end Go.Proofs.YthajipigppndgaaGreat

namespace Go.Proofs.YthajipigppndgaaGreat
open Go.RowKit Go.Maps
open Pg (SpE diffS byteAt)
def p57 : List UInt8 := (zs 512).set 5 7
theorem BegTo.ab {w w' : World} {b b' : Bk} {nb : Nat} {m m' : Mst} {V : Pages} (h : BegTo w w' b nb m V b' m') {a : Nat} (h1 : b.x.y.A ≤ a) (h2 : b.x.y.E ≤ a) : b'.x.y.A ≤ a := by
  rcases h.A with e | e <;> omega
def V0 : Pages := fun _ => zs 512
def V1 : Pages := setPg V0 0 p57
end Go.Proofs.YthajipigppndgaaGreat

namespace Go.Proofs.YthajipigppndgaaGreat
open Go.RowKit Go.Maps Go.Conc
def wpN (P : Program) (c : Code) (Q : Exit → Act → World → Prop) (a : Act) (w : World) : Prop :=
  ∀ (b : Frame) (k : List Item) (cs : List Frame), b.kind ≠ .early → ∃ e a' w', Q e a' w' ∧ Arrives P (lone (b.at a (.code c :: k)) cs w) b k cs e a' w'
section
variable {P : Program} {Q : Exit → Act → World → Prop} {a : Act} {w : World}
theorem wpN_of {c : Code} (h : c.wp P Q a w) : wpN P c Q a w := fun b k cs _ => h b k cs
theorem wpN_seqN {x y : Code} (h : wpN P x (Exit.then (wpN P y Q) Q) a w) : wpN P (Code.seq x y) Q a w := by
  intro b k cs hk
  obtain ⟨e, a₁, w₁, hq, harr⟩ := h b (.code y :: k) cs hk
  cases e with
  | normal =>
    obtain ⟨e₂, a₂, w₂, hq₂, harr₂⟩ := hq b k cs hk
    exact ⟨e₂, a₂, w₂, hq₂, .of_steps (.head step_seq harr) harr₂⟩
  | exit id => exact ⟨_, a₁, w₁, hq, .of_steps (.one step_seq) (.pass (x := .code y) rfl (fun _ _ => .inl (by simp)) harr)⟩
  | goto l => exact ⟨_, a₁, w₁, hq, .of_steps (.one step_seq) (.pass (x := .code y) rfl (fun _ _ => .inl (by simp)) harr)⟩
  | ret => exact ⟨_, a₁, w₁, hq, .of_steps (.one step_seq) (.pass (x := .code y) rfl (fun _ _ => .inl (by simp)) harr)⟩
  | panic ch => exact ⟨_, a₁, w₁, hq, .of_steps (.one step_seq) (.pass (x := .code y) rfl (fun _ _ => .inl (by simp)) harr)⟩
  | outgrown => exact ⟨_, a₁, w₁, hq, .of_steps (.one step_seq) (.pass (x := .code y) rfl (fun _ _ => .inl (by simp)) harr)⟩
theorem wpN_seq {x y : Code} (h : x.wp P (Exit.then (wpN P y Q) Q) a w) : wpN P (Code.seq x y) Q a w := wpN_seqN (wpN_of h)
theorem wpN_block_ret {id : Nat} {c : Code} (h : wpN P c (fun e a w => e = .ret ∧ Q .ret a w) a w) : wpN P (Code.block id c) Q a w := by
  intro b k cs hk
  obtain ⟨e, a₁, w₁, ⟨rfl, hq⟩, harr⟩ := h b (.inBlock id :: k) cs hk
  obtain ⟨todo, hs⟩ := harr
  exact ⟨.ret, a₁, w₁, hq, todo, .head step_block hs⟩
theorem wpN_loop_ret {c : Code} (h : wpN P c (fun e a w => e = .ret ∧ Q .ret a w) a w) : wpN P (Code.loop c) Q a w := by
  intro b k cs hk
  obtain ⟨e, a₁, w₁, ⟨rfl, hq⟩, harr⟩ := h b (.inLoop c :: k) cs hk
  obtain ⟨todo, hs⟩ := harr
  exact ⟨.ret, a₁, w₁, hq, todo, .head step_loop hs⟩
theorem calls_of_wpN {f : FuncId} {fn : Func} {c : Code} {args : Array Value} {R : Ending → World → Prop}
    (hf : P.funcs[f]? = some fn) (hb : fn.body = some c)
    (h : wpN P c (bodyPost P fn R) { tmps := args ++ Array.replicate (fn.ntmps - args.size) undef, defers := [] } w) :
    Calls P f args w R := by
  intro cs
  let b : Frame := { (default : Frame) with fn := f, kind := .normal }
  have henter : Frame.enter P f args .normal =
      b.at { tmps := args ++ Array.replicate (fn.ntmps - args.size) undef, defers := [] } [.code c] := by
    simp [Frame.enter, Frame.at, hf, hb, b]
  obtain ⟨e, a', w', hq, harr⟩ := h b [] cs (by simp [b])
  rw [← henter] at harr
  cases e with
  | normal =>
    obtain ⟨hd, v, hr, hR⟩ := hq
    exact ⟨.returned v, w', _, hR, Steps.trans harr (.one step_end), rfl, rfl, hd, rfl, fn, hf, hr⟩
  | ret =>
    obtain ⟨hd, v, hr, hR⟩ := hq
    obtain ⟨todo, hs⟩ := harr
    exact ⟨.returned v, w', _, hR, hs, rfl, rfl, hd, rfl, fn, hf, hr⟩
  | panic chain =>
    obtain ⟨hd, hR⟩ := hq
    obtain ⟨todo, hs⟩ := harr
    exact ⟨.panicked chain, w', _, hR, hs, rfl, rfl, hd, fn, hf⟩
  | exit id => exact hq.elim
  | goto l => exact hq.elim
  | outgrown => exact ⟨.outgrown, w', b, hq, harr.resolve_left (by simp [b]), rfl, trivial⟩
theorem res_r0 (c : Nat) (z v : Value) (ok : Bool) : commResult #[rcase c z] .select ((0 : Nat) : Int) v ok = .tuple #[goInt 0, .bool ok, v] := by
  simp [commResult, rcase]
theorem wpN_sel_shut {id : Nat} {ops : Array Oper} {o : Oper} {rest : List Nat} {c cap s r : Nat} {tm bl : Bool} {z : Value} (hl : List.range ops.size = 0 :: rest) (ho : ops[0]? = some o) (hw : Region.wanted o (yielded ops a.tmps) = true) (hr : (execOp a.eval o).run P w = .ok (.comm #[rcase c z] bl .select) w) (hc : w.heap[c]? = some (.chan cap #[] true s r tm))
    (h : wpOps P ops Q rest (a.put o.dst (.tuple #[goInt 0, .bool false, z])) w) : wpN P (Code.region id ops false) Q a w := by
  intro b k cs hk
  obtain ⟨e, a', w', q, arr⟩ := wp_ops rest _ w h b k cs
  refine ⟨e, a', w', q, .of_steps (.one step_region) (.of_steps (.one ?_) arr)⟩
  rw [hl, lone_eq_solo]
  have h1 := step_lone_sel_recv_shut (k := 0) (c := c) (z := z) (stepG_comm (main := true) (b := b) (a := a) (k := k) (cs := cs) (rest := rest) ho hw hk hr) rfl (fun m c' hm hc' => by
    rcases m with _ | m
    · exact absurd rfl hm
    · simp at hc') hc
  rw [h1, Frame.finish_at, res_r0]
  simp only [ho, Option.bind_some]
  rfl
end
end Go.Proofs.YthajipigppndgaaGreat

namespace Go.Proofs.YthajipigppndgaaGreat
open Go.RowKit Go.Maps Go.Conc
theorem from_empty {w : World} {y : Lo} (h : LoAt w y) (hls : y.ls = []) (k : Int) :
    Calls Tryz.prog 201 #[.pointer (some ⟨y.p, 0, none⟩), .int .i64 k] w fun e w' => e = .returned (.slice none 0 0) ∧ w' = w := by
  have c0 : w.cell? ⟨y.p, 0, none⟩ = some (.pointer (some ⟨y.d, 0, none⟩)) := h.box.c0
  have c9 : w.cell? ⟨y.p, 9, none⟩ = some (.slice y.a2 y.n2 y.c2) := h.box.c9
  have hn : y.n2 = 0 := by
    have h1 := h.lsA.len
    rw [hls] at h1
    simpa using h1.symm
  have HB : Hid (Calls Tryz.prog 190 #[.slice y.a2 y.n2 y.c2, .int .i64 k] w fun e w' => e = .returned (.tuple #[.int .i64 0, .bool false]) ∧ w' = w) := hidI (by
    refine (bin_any w y.a2 y.n2 y.c2 [] k (by simp [hn]) (by omega) (fun j v hj => by simp at hj)).mono ?_
    rintro e w' ⟨i, he, hw, hb⟩
    have h0 : i = 0 := by
      have := hb.le
      simpa using this
    subst h0
    exact ⟨by simpa using he, hw⟩)
  clear h hls hn
  go_enter Tryz.func201, Tryz.ntmps201
  go_wp2_with (first
    | (go_at_call 99; refine (lmade_yes _ _ _ c0).mono ?_; rintro e wz ⟨rfl, hz⟩; rw [hz]; clear hz)
    | (go_at_call 190; refine HB.out.mono ?_; rintro e wz ⟨rfl, hz⟩; rw [hz]; clear hz))
  go_ret
  exact ⟨rfl, rfl⟩
theorem mkR (w : World) : (Instr.makeChan 327 (.int .i64 0)).run Tryz.prog w = .ok (.chan (some w.heap.size)) (w.alloc (.chan 0 #[] false 0 0 false)) := by
  have h : ∃ i, Tryz.prog.info? 148 = some i ∧ i.bytes ≤ 1000 := by
    have h1 : (Tryz.prog.info? 148).map (fun i => decide (i.bytes ≤ 1000)) = some true := by kernel_rfl
    obtain ⟨i, hi, hb⟩ := Option.map_eq_some_iff.1 h1
    exact ⟨i, hi, of_decide_eq_true hb⟩
  obtain ⟨i, hi, hb⟩ := h
  simpa using run_makeChan (P := Tryz.prog) (w := w) Tryz.underlying327 hi .i64 0 (by omega) (by omega)
theorem fr_heap (w : World) (c : Nat) (o : Obj) : Fr [c] w { w with heap := w.heap.setIfInBounds c o } := ⟨rfl, rfl, rfl, by simp, fun k _ hn => Array.getElem?_setIfInBounds_ne (fun e => hn (by simp [e]))⟩
set_option maxRecDepth 100000 in
theorem inLine_nil (w : World) : Calls Tryz.prog 200 #[.slice none 0 0] w fun e w' => ∃ c, e = .returned (.chan (some c)) ∧ w'.heap[c]? = some (.chan 0 #[] true 0 0 false) ∧ Fr [] w w' := by
  have hmc := mkR w
  have f1 : Fr [] w (w.alloc (.chan 0 #[] false 0 0 false)) := (Fr.refl [] w).alloc _
  have h1 : (w.alloc (.chan 0 #[] false 0 0 false)).heap[w.heap.size]? = some (.chan 0 #[] false 0 0 false) := heap_alloc_new w _
  have hcl := fun ats ty => run_close_open (P := Tryz.prog) (w := w.alloc (.chan 0 #[] false 0 0 false)) ats ty h1
  go_enter Tryz.func200, Tryz.ntmps200
  go_wp2_with fail
  go_loopw [11] (fun s11 wr => s11 = .int .i64 0 ∧ wr = w.alloc (.chan 0 #[] false 0 0 false)) (fun _ _ => 0)
  case atStart => exact ⟨rfl, rfl⟩
  case round =>
    obtain ⟨rfl, rfl⟩ := hrel
    go_wp2_with fail
    go_ret
    refine ⟨w.heap.size, rfl, ?_, ?_⟩
    · simp
    · exact f1.then (fr_heap _ w.heap.size _) (fun i hi hm => by simp at hm; omega)
def zRec : Value := .agg #[.int .i64 0, .int .i64 0, .int .u8 0, .int .i64 0, .int .i64 0, .int .i64 0, .int .i64 0, .int .i64 0, .slice none 0 0, .slice none 0 0]
set_option maxHeartbeats 2000000 in
set_option maxRecDepth 100000 in
theorem redo_none {w : World} {y : Lo} (h : LoAt w y) (hls : y.ls = []) (rb : Nat) (hrb : w.cell? ⟨rb, 0, none⟩ = some (.pointer (some ⟨y.p, 0, none⟩))) :
    Calls Tryz.prog 127 #[.pointer (some ⟨rb, 0, none⟩)] w fun e w' => e = .returned (.int .i64 0) ∧ Fr [] w w' := by
  have HH := hidI h
  have HL := hidI hls
  have HOL := hidI (lo_oldest (h.kept (Fr.refl [] w).drew (by simp)))
  have HFR := hidI (from_empty (h.kept (Fr.refl [] w).drew (by simp)) hls ((y.A : Int) + 1))
  clear h hls
  refine calls_of_wpN Tryz.func127 rfl ?_
  simp only [Tryz.ntmps127, List.size_toArray, List.length_cons, List.length_nil, Nat.reduceAdd, Nat.reduceSub, Array.replicate_succ, Array.replicate_zero, List.push_toArray, List.append_toArray, List.nil_append, List.cons_append]
  refine wpN_seq ?_
  go_wp2_with fail
  refine wpN_seq ?_
  go_region_held3 (fun w' => w'.cell? ⟨rb, 0, none⟩ = some (.pointer (some ⟨y.p, 0, none⟩))) (first | exact hrb | exact hk) ((first
    | (go_at_call 110; refine HOL.out.mono ?_; rintro e wz ⟨rfl, hz⟩; rw [hz]; clear hz)
    | (go_at_call 201; refine HFR.out.mono ?_; rintro e wz ⟨rfl, hz⟩; rw [hz]; clear hz)
    | (go_at_call 200; refine (inLine_nil _).mono ?_; rintro e w2 ⟨c, rfl, hc, f2⟩; have hk : w2.cell? ⟨rb, 0, none⟩ = some (.pointer (some ⟨y.p, 0, none⟩)) := (World.cell?_of_block (f2.block rb (block_lt_of_cell hrb) (by simp))).trans hrb)))
  all_goals
    simp only [Exit.then]
    refine wpN_block_ret (wpN_loop_ret (wpN_block_ret ?_))
    refine wpN_seq ?_
    go_wp2_with fail
    refine wpN_seqN ?_
    refine wpN_sel_shut (rest := [1, 2]) (bl := true) (z := zRec) rfl rfl rfl ?_ hc ?_
    · simp [go_sem, execOp, rcase, Act.eval]
      rfl
    · simp [wpOps, Oper.wp, Oper.upon, execOp, go_sem, Act.eval, Act.put, Region.wanted, goInt]
      refine Or.inl ?_
      first
        | refine wpN_of ?_
        | refine Or.inl (wpN_of ?_)
      unfold zRec
      go_wp2_with fail
      go_ret
      exact ⟨rfl, ((Fr.refl [] w).drew.trans f2).alloc _⟩
end Go.Proofs.YthajipigppndgaaGreat

namespace Go.Proofs.YthajipigppndgaaGreat
open Go.RowKit Go.Maps
def m221 : Mst := ⟨2, 2, 1⟩
theorem m221_ok : MOk m221 := ⟨by decide, by decide, by decide, by decide, by decide, by decide⟩
set_option maxHeartbeats 2000000 in
set_option maxRecDepth 100000 in
theorem takeTurn_fresh {w : World} {d bs bo : Nat} {nb : Int} {S O : Dv.Tab} (hd : Dv.Dev w d bs bo nb 0 false S O) (hn : 24 ≤ nb) (hm : Mas S O m111) :
    Calls Tryz.prog 125 #[.pointer (some ⟨d, 0, none⟩)] w fun e w' => e = .returned (.tuple #[.agg (mV m221), .int .i64 0]) ∧ Dv.Dev w' d bs bo nb 0 false (Dv.over S (O.put 0 (mBytes m221))) Dv.Tab.none ∧ Fr [d, bs, bo] w w' := by
  have f1 : Fr [] w (w.alloc (.cells #[.int .i64 0, .int .i64 0, .int .i64 0] 159)) := (Fr.refl [] w).alloc _
  have hM := heap_alloc_new w (.cells #[.int .i64 0, .int .i64 0, .int .i64 0] 159)
  obtain ⟨w1, hw1⟩ : ∃ w1, w.alloc (.cells #[.int .i64 0, .int .i64 0, .int .i64 0] 159) = w1 := ⟨_, rfl⟩
  rw [hw1] at f1 hM
  have D1 := hidI (dev_kept hd f1 (by simp) (by simp) (by simp))
  have HM := hidI hm
  have hlt : Hid (∀ k, w.heap.size ≤ k → k ∉ [d, bs, bo]) := hidI (fun k hk hm => by
    have h1 : d < w.heap.size := (Array.getElem?_eq_some_iff.1 hd.cells).1
    have h2 : bs < w.heap.size := by
      obtain ⟨D', ⟨es, clock, hb, _⟩, _⟩ := hd.safe
      exact (Array.getElem?_eq_some_iff.1 hb).1
    have h3 : bo < w.heap.size := by
      obtain ⟨D', ⟨es, clock, hb, _⟩, _⟩ := hd.opn
      exact (Array.getElem?_eq_some_iff.1 hb).1
    simp at hm
    omega)
  clear hd hm
  go_enter Tryz.func125, Tryz.ntmps125
  go_wp2_with fail
  refine (mas_read D1.out (by omega) HM.out).mono ?_
  unfold mV m111
  rintro e w2 ⟨rfl, f2⟩
  dsimp only
  have f3 : Fr [] w2 (w2.alloc (.cells #[.int .i64 1, .int .i64 1, .int .i64 1] 159)) := (Fr.refl [] w2).alloc _
  have hN := heap_alloc_new w2 (.cells #[.int .i64 1, .int .i64 1, .int .i64 1] 159)
  obtain ⟨w3, hw3⟩ : ∃ w3, w2.alloc (.cells #[.int .i64 1, .int .i64 1, .int .i64 1] 159) = w3 := ⟨_, rfl⟩
  rw [hw3] at f3 hN
  have x0 := cell_of_row _ w2.heap.size 0 _ _ _ hN
  have x1 := cell_of_row _ w2.heap.size 1 _ _ _ hN
  have z0 := frozen_of_row w3 w2.heap.size 0 _ _ hN
  have z1 := frozen_of_row w3 w2.heap.size 1 _ _ hN
  go_wp2_with fail
  have h4 := heap_setCell_same _ w2.heap.size 1 _ _ (.int .i64 2) (heap_setCell_same w3 w2.heap.size 0 _ _ (.int .i64 2) hN)
  have f5 : Fr [w2.heap.size] w3 ((w3.setCell ⟨w2.heap.size, 0, none⟩ (.int .i64 2)).setCell ⟨w2.heap.size, 1, none⟩ (.int .i64 2)) := (fr_set w3 w2.heap.size 0 _).trans (fr_set _ w2.heap.size 1 _)
  generalize (w3.setCell ⟨w2.heap.size, 0, none⟩ (.int .i64 2)).setCell ⟨w2.heap.size, 1, none⟩ (.int .i64 2) = w5 at h4 f5 ⊢
  have h5 : MBox w5 w2.heap.size ⟨2, 2, 1⟩ := h4
  have l2 : w.heap.size < w2.heap.size := by
    have h1 := (Array.getElem?_eq_some_iff.1 hM).1
    have h2 := f2.size
    omega
  have hM5 : MBox w5 w.heap.size ⟨0, 0, 0⟩ := f5.same (by simp; omega) (f3.same (by simp) (f2.same (by simp) hM))
  have F5 : Fr [] w w5 := (f1.trans (f2.trans f3)).then f5 (fun i hi hm => by simp at hm; omega)
  have D5 := hidI (dev_kept (dev_kept D1.out (f2.trans f3) (by simp) (by simp) (by simp)) f5 (fun e => hlt.out w2.heap.size (by omega) (by simp at e; simp [e])) (fun e => hlt.out w2.heap.size (by omega) (by simp at e; simp [e])) (fun e => hlt.out w2.heap.size (by omega) (by simp at e; simp [e])))
  have HW : Hid (∀ w', Fr [] w5 w' → Calls Tryz.prog 115 #[.pointer (some ⟨d, 0, none⟩), .agg #[.int .i64 2, .int .i64 2, .int .i64 1]] w' fun e w'' => e = .returned (.int .i64 0) ∧ Hid (Dv.Dev w'' d bs bo nb 0 false (Dv.over S (O.put 0 (mBytes m221))) Dv.Tab.none ∧ Fr [d, bs, bo] w5 w'')) := hidI (fun w' f => by
    refine (mw_any w' d bs bo nb S O (dev_kept D5.out f (by simp) (by simp) (by simp)) hn m221 m221_ok).mono ?_
    rintro e w'' ⟨he, hd, hf⟩
    exact ⟨he, hidI ⟨hd, (f.mono (by simp)).trans hf⟩⟩)
  have y0 := cell_of_row _ w2.heap.size 0 _ _ _ h5
  have y1 := cell_of_row _ w2.heap.size 1 _ _ _ h5
  have y2 := cell_of_row _ w2.heap.size 2 _ _ _ h5
  have H5 := hidI h5
  have HM5 := hidI hM5
  clear x0 x1 z0 z1 h4 h5 hM5 hN hM
  go_region_held3 (fun w' => w'.cell? ⟨w2.heap.size, 0, none⟩ = some (.int .i64 2) ∧ w'.cell? ⟨w2.heap.size, 1, none⟩ = some (.int .i64 2) ∧ w'.cell? ⟨w2.heap.size, 2, none⟩ = some (.int .i64 1)) (first | exact ⟨u0, u1, u2⟩ | exact ⟨y0, y1, y2⟩ | exact ⟨cell_of_row _ w2.heap.size 0 _ _ _ g7, cell_of_row _ w2.heap.size 1 _ _ _ g7, cell_of_row _ w2.heap.size 2 _ _ _ g7⟩) ((first
    | (go_at_call 115; refine (HW.out _ (Fr.refl [] w5).drew).mono ?_; rintro e w6 ⟨rfl, H6⟩; have m6 := H6.out.2.same (hlt.out _ (by omega)) H5.out; have u0 := cell_of_row _ w2.heap.size 0 _ _ _ m6; have u1 := cell_of_row _ w2.heap.size 1 _ _ _ m6; have u2 := cell_of_row _ w2.heap.size 2 _ _ _ m6; have n6 := H6.out.2.same (hlt.out _ (Nat.le_refl _)) HM5.out; have v0 := cell_of_row _ w.heap.size 0 _ _ _ n6; have v1 := cell_of_row _ w.heap.size 1 _ _ _ n6; have v2 := cell_of_row _ w.heap.size 2 _ _ _ n6; have k0 := frozen_of_row w6 w.heap.size 0 _ _ n6; have k1 := frozen_of_row w6 w.heap.size 1 _ _ n6; have k2 := frozen_of_row w6 w.heap.size 2 _ _ n6; have f7 := ((fr_set w6 w.heap.size 0 (.int .i64 2)).trans (fr_set _ w.heap.size 1 (.int .i64 2))).trans (fr_set _ w.heap.size 2 (.int .i64 1)); have g7 := f7.same (by simp; omega) m6)))
  all_goals
    go_wp2_with fail
    have r7 : MBox (((w6.setCell ⟨w.heap.size, 0, none⟩ (.int .i64 2)).setCell ⟨w.heap.size, 1, none⟩ (.int .i64 2)).setCell ⟨w.heap.size, 2, none⟩ (.int .i64 1)) w.heap.size ⟨2, 2, 1⟩ := heap_setCell_same _ w.heap.size 2 _ _ (.int .i64 1) (heap_setCell_same _ w.heap.size 1 _ _ (.int .i64 2) (heap_setCell_same w6 w.heap.size 0 _ _ (.int .i64 2) n6))
    refine bodyPost_ret (resM2 Tryz.results125 _ _ _ ⟨2, 2, 1⟩ rfl r7) rfl ⟨rfl, dev_kept H6.out.1 f7 (fun e => hlt.out w.heap.size (Nat.le_refl _) (by simp at e; simp [e])) (fun e => hlt.out w.heap.size (Nat.le_refl _) (by simp at e; simp [e])) (fun e => hlt.out w.heap.size (Nat.le_refl _) (by simp at e; simp [e])), ?_⟩
    exact ((F5.mono (by simp)).trans H6.out.2).then f7 (fun i hi hm => by simp at hm; omega)
set_option maxRecDepth 100000 in
theorem undo_none {w : World} (rb : Nat) (h2 : w.cell? ⟨rb, 2, none⟩ = some (.int .i64 0)) (h4 : w.cell? ⟨rb, 4, none⟩ = some (.int .u8 0)) :
    Calls Tryz.prog 128 #[.pointer (some ⟨rb, 0, none⟩)] w fun e w' => e = .returned (.int .i64 0) ∧ w' = w := by
  go_enter Tryz.func128, Tryz.ntmps128
  go_wp2_with fail
  go_ret
  exact ⟨rfl, rfl⟩
end Go.Proofs.YthajipigppndgaaGreat

namespace Go.Proofs.YthajipigppndgaaGreat
open Go.RowKit Go.Maps
def RsBox (w : World) (rb p pp : Nat) : Prop := w.heap[rb]? = some (.cells #[.pointer (some ⟨p, 0, none⟩), .pointer (some ⟨pp, 0, none⟩), .int .i64 0, .int .i64 0, .int .u8 0, .int .i64 0, .int .i64 0, .int .i64 0, .int .i64 0, .int .i64 0, .slice none 0 0, .slice none 0 0, .int .i64 0, .int .i64 0, .int .i64 0, .int .i64 0] 175)
set_option maxHeartbeats 2000000 in
set_option maxRecDepth 100000 in
theorem rbegin_ok {w : World} {d bs bo : Nat} {S : Dv.Tab} (nb most pages : Nat) (at' cnt : Int) (hd : Dv.Dev w d bs bo (nb : Int) 0 false S Dv.Tab.none) (h0 : 24 ≤ nb) (h1 : nb ≤ 65536) (h3 : 8 ≤ most) (h4 : most ≤ 1024) (hcnt : (nb : Int) / 2 = cnt) (hat : (nb : Int) - cnt = at') (hpages : (nb : Int) - 2 - cnt = (pages : Int)) (hz : Dv.latest S Dv.Tab.none at' = zs 512) :
    Calls Tryz.prog 126 #[.pointer (some ⟨d, 0, none⟩), .agg #[.int .i64 2, .int .i64 2, .int .i64 1], .int .i64 (most : Int)] w fun e w' => ∃ rb, e = .returned (.tuple #[.pointer (some ⟨rb, 0, none⟩), .int .i64 0]) ∧ Hid (∃ p pp rp mp, RsBox w' rb p pp ∧ PoAt w' ⟨loF d bs bo (nb : Int) S p at' cnt 3, pp, rp, mp, 2, pages, most, none, 0, 0, []⟩ ∧ w.heap.size ≤ p ∧ w.heap.size ≤ pp ∧ w.heap.size ≤ rp ∧ w.heap.size ≤ mp ∧ w.heap.size ≤ rb ∧ Fr [] w w') := by
  have z1 : 4 ≤ cnt := by omega
  have z2 : 2 ≤ at' := by omega
  have z3 : at' + cnt ≤ (nb : Int) := by omega
  have z4 : 1 ≤ pages := by omega
  have z5 : 2 + (pages : Int) ≤ at' := by omega
  have HPL : Hid (∀ w', Calls Tryz.prog 197 #[.int .i64 (nb : Int)] w' fun e w'' => e = .returned (.tuple #[.int .i64 2, .int .i64 (pages : Int), .int .i64 at', .int .i64 cnt]) ∧ w'' = w') := hidI (fun w' => place_let w' nb pages at' cnt h0 h1 hcnt hat hpages)
  have HZ := hidI hz
  have f1 : Fr [] w (w.alloc (.cells #[.int .i64 2, .int .i64 2, .int .i64 1] 159)) := (Fr.refl [] w).alloc _
  have hM := heap_alloc_new w (.cells #[.int .i64 2, .int .i64 2, .int .i64 1] 159)
  obtain ⟨w1, hw1⟩ : ∃ w1, w.alloc (.cells #[.int .i64 2, .int .i64 2, .int .i64 1] 159) = w1 := ⟨_, rfl⟩
  rw [hw1] at f1 hM
  have D1 := hidI (dev_kept hd f1 (by simp) (by simp) (by simp))
  have x1 := cell_of_row _ w.heap.size 1 _ _ _ hM
  have x2 := cell_of_row _ w.heap.size 2 _ _ _ hM
  clear hcnt hat hpages hz hd hM
  go_enter Tryz.func126, Tryz.ntmps126
  go_wp2_with (first
    | (go_at_call 120; refine (Dv.blocks_dev D1.out).mono ?_; rintro e wz ⟨rfl, hz⟩; rw [hz]; clear hz)
    | (go_at_call 197; refine (HPL.out _).mono ?_; rintro e wz ⟨rfl, hz⟩; rw [hz]; clear hz))
  refine (open_zero w1 d bs bo (nb : Int) 0 _ _ D1.out at' cnt 3 (by omega) z3 z1 (by omega) (by omega) (by rw [HZ.out]; exact zs_stamp)).mono ?_
  rintro e w2 ⟨p, rfl, L2, hp2, f2⟩
  have A2 : Hid (LoAt w2 (loF d bs bo (nb : Int) S p at' cnt 3)) := hidI (loF_at (dev_kept D1.out f2 (by simp) (by simp) (by simp)) z1 z2 z3 (by omega) L2)
  clear L2 x1 x2
  go_wp2_with fail
  refine (new_ok A2.out 2 pages most z4 (by show (2 : Int) + (pages : Int) ≤ (nb : Int); omega) h3 h4 (Or.inl (by show (2 : Int) + (pages : Int) ≤ at'; omega)) (by show (2 : Int) ≤ 2; omega)).mono ?_
  rintro e w3 ⟨pp, rp, mp, rfl, P3, hpp, hrp, hmp, f3⟩
  have P3' := hidI P3
  clear P3
  go_wp2_with fail
  go_ret2
  have f4 : Fr [] w3 (w3.alloc (.cells #[.pointer (some ⟨p, 0, none⟩), .pointer (some ⟨pp, 0, none⟩), .int .i64 0, .int .i64 0, .int .u8 0, .int .i64 0, .int .i64 0, .int .i64 0, .int .i64 0, .int .i64 0, .slice none 0 0, .slice none 0 0, .int .i64 0, .int .i64 0, .int .i64 0, .int .i64 0] 175)) := (Fr.refl [] w3).alloc _
  have h5 := heap_alloc_new w3 (.cells #[.pointer (some ⟨p, 0, none⟩), .pointer (some ⟨pp, 0, none⟩), .int .i64 0, .int .i64 0, .int .u8 0, .int .i64 0, .int .i64 0, .int .i64 0, .int .i64 0, .int .i64 0, .slice none 0 0, .slice none 0 0, .int .i64 0, .int .i64 0, .int .i64 0, .int .i64 0] 175)
  have l1 := f1.size
  have l2 := f2.size
  have l3 := f3.size
  exact ⟨w3.heap.size, rfl, hidI ⟨p, pp, rp, mp, h5, P3'.out.kept f4 (by simp), by omega, by omega, by omega, by omega, by omega, ((f1.trans f2).trans f3).trans f4⟩⟩
end Go.Proofs.YthajipigppndgaaGreat


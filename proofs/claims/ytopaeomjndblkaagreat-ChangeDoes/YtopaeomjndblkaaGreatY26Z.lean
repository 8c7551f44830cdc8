/-
  A record of the transaction appended: the book's add.
-/
import Derived.Test.YtopaeomjndblkaaGreatY25Z
import Derived.Test.YtopaeomjndblkaaGreatY22Z
import Derived.Test.YtopaeomjndblkaaGreatY14Z
import Derived.Test.YtopaeomjndblkaaGreatY20Z
namespace Go.Proofs.YtopaeomjndblkaaGreat
open Go.RowKit Go.Maps

theorem len_zero (w : World) : Calls Tryz.prog 232 #[.int .u64 0] w fun e w' => ∃ k, e = .returned (.int .i64 k) ∧ w' = w := by
  go_enter Tryz.func232, Tryz.ntmps232
  go_wp2_with (go_at_call 276; refine (len64_zero _).mono ?_; rintro e wz ⟨k, rfl, hz⟩; rw [hz]; clear hz)
  go_ret
  exact ⟨_, rfl, rfl⟩
theorem insert_zero (w : World) (v : Value) : Calls Tryz.prog 267 #[.slice none 0 0, .int .i64 0, .int .i64 0, v] w fun e w' => e = .returned (.tuple #[]) ∧ w' = w := by
  go_enter Tryz.func267, Tryz.ntmps267
  go_wp2_with fail
  go_loopw [8, 9] (fun s8 s9 wr => s8 = .int .i64 1 ∧ wr = w ∧ s9 = s9) (fun _ _ _ => 0)
  case atStart => exact ⟨rfl, rfl, rfl⟩
  case round =>
    obtain ⟨rfl, rfl, -⟩ := hrel
    go_wp2_with fail
    go_end0
    exact ⟨rfl, rfl⟩
set_option maxHeartbeats 1000000 in
theorem pdq_zero (w : World) (k : Int) (v : Value) : Calls Tryz.prog 231 #[.slice none 0 0, .int .i64 0, .int .i64 0, .int .i64 k, v] w fun e w' => e = .returned (.tuple #[]) ∧ w' = w := by
  go_enter Tryz.func231, Tryz.ntmps231
  go_wp2_with fail
  go_loopw [1, 2] (fun s1 s2 wr => s1 = .int .i64 0 ∧ s2 = .int .i64 0 ∧ wr = w) (fun _ _ _ => 0)
  case atStart => exact ⟨rfl, rfl, rfl⟩
  case round =>
    obtain ⟨rfl, rfl, rfl⟩ := hrel
    go_wp2_with (go_at_call 267; refine (insert_zero _ _).mono ?_; rintro e wz ⟨rfl, hz⟩; rw [hz]; clear hz)
    exact bodyPost_ret (results_none Tryz.results231 _ _ _) rfl ⟨rfl, rfl⟩
theorem sort_zero (w : World) (v : Value) : Calls Tryz.prog 188 #[.slice none 0 0, v] w fun e w' => e = .returned (.tuple #[]) ∧ w' = w := by
  go_enter Tryz.func188, Tryz.ntmps188
  go_wp2_with (first
    | (go_at_call 232; refine (len_zero _).mono ?_; rintro e wz ⟨k, rfl, hz⟩; rw [hz]; clear hz)
    | (go_at_call 231; refine (pdq_zero _ _ _).mono ?_; rintro e wz ⟨rfl, hz⟩; rw [hz]; clear hz))
  go_end0
  exact ⟨rfl, rfl⟩
theorem Step.lower {w w' : World} {x : Po} (h : PoAt w x) {y' : Lo} (hy : LoAt w' y') {L : List Nat} (f : Fr L w w') (hL : ∀ k ∈ L, k ∈ x.y.own) (how : ∀ k ∈ y'.own, k ∈ x.y.own ∨ w.heap.size ≤ k)
    (hd : y'.d = x.y.d) (hp : y'.p = x.y.p) (hbs : y'.bs = x.y.bs) (hbo : y'.bo = x.y.bo) (hnb : y'.nb = x.y.nb) (hfi : y'.first = x.y.first) (hco : y'.count = x.y.count) (hE : x.y.E ≤ y'.E) (hpg : ∀ q, q < x.pages → pgD x.start y' q = pgD x.start x.y q) (hlw : y'.lw = x.y.lw) : Step w w' x { x with y := y' } := by
  obtain ⟨S, hS, hT⟩ := h.mp
  have hpf : ({ x with y := y' } : Po).pf = x.pf := by
    show Pf.mk y'.d y'.p x.start x.pages x.most x.rp x.mp = Pf.mk x.y.d x.y.p x.start x.pages x.most x.rp x.mp
    rw [hd, hp]
  refine ⟨{ lo := hy, box := ?_, rn := h.rn.kept f (fun k hk e => h.d1 k hk (hL k e)), mp := ⟨S, hS.kept f (fun e => h.d3 (hL _ e)), hT⟩, mne := ?_, nod := h.nod, ok := ?_, hl := h.hl, m0 := h.m0, m1 := h.m1, hh := h.hh, hh0 := h.hh0, p1 := h.p1, area := ?_, dis := ?_, hlw := by show y'.lw ≤ _; rw [hlw]; exact h.hlw }, ?_, ?_⟩
  · rw [hpf]
    exact h.box.kept f (fun e => h.d4 (by simp only [Po.own, List.mem_cons, List.mem_append]; exact Or.inr (Or.inr (hL _ e))))
  · show x.mp ≠ y'.bs ∧ x.mp ≠ y'.bo
    rw [hbs, hbo]
    exact h.mne
  · intro g hg
    have ho := h.ok g hg
    exact { ho with l1 := Int.le_trans ho.l1 (by show (x.y.E : Int) ≤ (y'.E : Int); omega), cl := fun h0 => by show g.l = pgD x.start y' g.pg; rw [hpg g.pg ho.pg]; exact ho.cl h0 }
  · show (x.start : Int) + (x.pages : Int) ≤ y'.nb
    rw [hnb]
    exact h.area
  · show (x.start : Int) + (x.pages : Int) ≤ y'.first ∨ y'.first + y'.count ≤ (x.start : Int)
    rw [hfi, hco]
    exact h.dis
  · exact f.mono (fun k _ hk => by simp only [Po.own, List.mem_cons, List.mem_append]; exact Or.inr (Or.inr (hL k hk)))
  · intro k hk
    have hk2 : k = x.mp ∨ k ∈ ownR x.rp x.sa x.fs ∨ k ∈ y'.own := by simpa [Po.own] using hk
    simp only [Po.own, List.mem_cons, List.mem_append]
    rcases hk2 with h1 | h1 | h1
    · exact Or.inl (Or.inl h1)
    · exact Or.inl (Or.inr (Or.inl h1))
    · rcases how k h1 with h2 | h2
      · exact Or.inl (Or.inr (Or.inr h2))
      · exact Or.inr h2
set_option maxHeartbeats 1000000 in
theorem new_ok {w : World} {y : Lo} (h : LoAt w y) (start pages most : Nat) (h1 : 1 ≤ pages) (h2 : (start : Int) + (pages : Int) ≤ y.nb) (h3 : 8 ≤ most) (h4 : most ≤ 1024) (hdis : (start : Int) + (pages : Int) ≤ y.first ∨ y.first + y.count ≤ (start : Int)) (hlw : y.lw ≤ (start : Int)) : Calls Tryz.prog 74 #[.pointer (some ⟨y.d, 0, none⟩), .pointer (some ⟨y.p, 0, none⟩), .int .i64 (start : Int), .int .i64 (pages : Int), .int .i64 (most : Int)] w fun e w' => ∃ pp rp mp, e = .returned (.pointer (some ⟨pp, 0, none⟩)) ∧ PoAt w' ⟨y, pp, rp, mp, start, pages, most, none, 0, 0, []⟩ ∧ w.heap.size ≤ pp ∧ w.heap.size ≤ rp ∧ w.heap.size ≤ mp ∧ Fr [] w w' := by
  have n1 := h.dev.n1
  have n2 := h.dev.n2
  have q0 : (y.nb == 0) = false := by rw [beq_eq_false_iff_ne]; omega
  have q1 : ((y.E : Int) + 1 == 0) = false := by rw [beq_eq_false_iff_ne]; omega
  have q2 : IntKind.i64.wrap (y.nb - (pages : Int)) = y.nb - (pages : Int) := wrapI _ (by omega) (by omega)
  have q3 : ¬ (start : Int) < 0 := by omega
  have q4 : ¬ (pages : Int) < 1 := by omega
  have q5 : ¬ y.nb - (pages : Int) < (start : Int) := by omega
  have q6 : ¬ (most : Int) < 8 := by omega
  have q7 : ¬ 1024 < (most : Int) := by omega
  have HH := hidI h
  have hmm := @run_makeMap Tryz.prog
  clear h
  go_enter Tryz.func74, Tryz.ntmps74
  go_wp2_with (first
    | (go_at_call 120; refine (Dv.blocks_dev HH.out.dev).mono ?_; rintro e wz ⟨rfl, hz⟩; rw [hz]; clear hz)
    | (go_at_call 77; refine (lo_end HH.out).mono ?_; rintro e wz ⟨rfl, hz⟩; rw [hz]; clear hz))
  go_ret
  obtain ⟨V1, HV1⟩ : ∃ V1, Hid (V1 = Obj.cells #[Value.slice none 0 0, Value.int IntKind.i64 0] 157) := ⟨_, rfl⟩
  obtain ⟨V3, HV3⟩ : ∃ V3, Hid (V3 = Obj.cells #[.pointer (some ⟨y.d, 0, none⟩), .pointer (some ⟨y.p, 0, none⟩), .int .i64 (start : Int), .int .i64 (pages : Int), .int .i64 (most : Int), .pointer (some ⟨w.heap.size, 0, none⟩), .map (some (w.heap.size + 1))] 148) := ⟨_, rfl⟩
  refine ⟨w.heap.size + 2, w.heap.size, w.heap.size + 1, rfl, ?_, by omega, Nat.le_refl _, by omega, (((Fr.refl _ _).alloc _).alloc _).alloc _⟩
  have a1 := heap_alloc_new w (Obj.cells #[Value.slice none 0 0, Value.int IntKind.i64 0] 157)
  have f1 : Fr [] w (w.alloc (Obj.cells #[Value.slice none 0 0, Value.int IntKind.i64 0] 157)) := (Fr.refl [] w).alloc _
  have s1 : (w.alloc (Obj.cells #[Value.slice none 0 0, Value.int IntKind.i64 0] 157)).heap.size = w.heap.size + 1 := by simp
  generalize w.alloc (Obj.cells #[Value.slice none 0 0, Value.int IntKind.i64 0] 157) = w1 at a1 f1 s1 ⊢
  have t2 := pMap.made w1
  rw [s1] at t2
  have f2 : Fr [] w1 (w1.alloc (.map #[] 0)) := (Fr.refl [] w1).alloc _
  have s2 : (w1.alloc (.map #[] 0)).heap.size = w.heap.size + 2 := by simp [s1]
  generalize w1.alloc (.map #[] 0) = w2 at t2 f2 s2 ⊢
  have a3 := heap_alloc_new w2 (.cells #[.pointer (some ⟨y.d, 0, none⟩), .pointer (some ⟨y.p, 0, none⟩), .int .i64 (start : Int), .int .i64 (pages : Int), .int .i64 (most : Int), .pointer (some ⟨w.heap.size, 0, none⟩), .map (some (w.heap.size + 1))] 148)
  have f3 : Fr [] w2 (w2.alloc (.cells #[.pointer (some ⟨y.d, 0, none⟩), .pointer (some ⟨y.p, 0, none⟩), .int .i64 (start : Int), .int .i64 (pages : Int), .int .i64 (most : Int), .pointer (some ⟨w.heap.size, 0, none⟩), .map (some (w.heap.size + 1))] 148)) := (Fr.refl [] w2).alloc _
  rw [s2] at a3
  generalize w2.alloc (.cells #[.pointer (some ⟨y.d, 0, none⟩), .pointer (some ⟨y.p, 0, none⟩), .int .i64 (start : Int), .int .i64 (pages : Int), .int .i64 (most : Int), .pointer (some ⟨w.heap.size, 0, none⟩), .map (some (w.heap.size + 1))] 148) = w3 at a3 f3 ⊢
  have hlt := HH.out.dev.lt
  exact { lo := HH.out.kept ((f1.trans f2).trans f3) (by simp), box := a3, rn := ⟨(f2.trans f3).same (by simp) a1, ⟨by simp [slV], Or.inl ⟨rfl, rfl⟩⟩, fun f hf => (nomatch hf), by simp⟩, mp := ⟨_, t2.kept f3 (by simp), ⟨fun q hq => (nomatch hq), fun k b hk => (nomatch hk)⟩⟩, mne := ⟨by show w.heap.size + 1 ≠ y.bs; omega, by show w.heap.size + 1 ≠ y.bo; omega⟩, nod := by simp [ids], ok := fun f hf => (nomatch hf), hl := by show 0 ≤ most; omega, m0 := h3, m1 := h4, hh := fun e => by have e' : 0 = most := e; omega, hh0 := fun _ => rfl, p1 := h1, area := h2, dis := hdis, hlw := hlw }
end Go.Proofs.YtopaeomjndblkaaGreat

namespace Go.Proofs.YtopaeomjndblkaaGreat
open Go.RowKit Go.Maps

structure Bk where
  x : Po
  bp : Nat
  dp : Nat
  t : Dl
/-- A book in memory; none of its pages is held. -/
structure BkAt (w : World) (b : Bk) : Prop where
  po : PoAt w b.x
  box : BBox w b.bp b.x.y.d b.x.y.p b.x.pp b.dp
  dl : DlAt w b.dp b.t
  hd0 : ∀ f ∈ b.x.fs, f.hd = 0
  ls : LsOk b.x.y
theorem po_notin {w : World} {x : Po} (h : PoAt w x) {k : Nat} {cur : Array Value} {t : TypeId} (hk : w.heap[k]? = some (.cells cur t)) (h1 : t ≠ 223 ∧ t ≠ 180 ∧ t ≠ 5 ∧ t ≠ 2) (h2 : t ≠ 162 ∧ t ≠ 159 ∧ t ≠ 157) (h3 : t ≠ 148) : k ∉ x.pp :: x.own := by
  intro hm
  simp only [Po.own, List.mem_cons, List.mem_append] at hm
  rcases hm with rfl | rfl | hm | hm
  · have h4 := h.box
    unfold PBox' at h4
    rw [h4] at hk
    cases hk
    exact h3 rfl
  · obtain ⟨S, hS, _⟩ := h.mp
    exact hS.notcells _ _ hk
  · obtain ⟨cur', t', hc, ht⟩ := h.rn.types _ hm
    rw [hc] at hk
    cases hk
    rcases ht with e | e | e
    · exact absurd e (by first | exact h2.1 | exact h2.2.1 | exact h2.2.2)
    · exact absurd e (by first | exact h2.1 | exact h2.2.1 | exact h2.2.2)
    · exact absurd e (by first | exact h2.1 | exact h2.2.1 | exact h2.2.2)
  · rcases (h.lo.types _ hm).2 _ _ hk with e | e | e | e
    · exact h1.1 e
    · exact h1.2.1 e
    · exact h1.2.2.1 e
    · exact h1.2.2.2 e
theorem BkAt.bn {w : World} {b : Bk} (h : BkAt w b) : b.bp ∉ b.x.pp :: b.x.own := po_notin h.po h.box (by decide) (by decide) (by decide)
theorem BkAt.dn {w : World} {b : Bk} (h : BkAt w b) : b.dp ∉ b.x.pp :: b.x.own := po_notin h.po h.dl (by decide) (by decide) (by decide)
theorem BkAt.bd {w : World} {b : Bk} (h : BkAt w b) : b.bp ≠ b.dp := fun e => by
  have h1 := h.box
  have h2 := h.dl
  unfold BBox at h1
  unfold DlAt at h2
  rw [e, h2] at h1
  cases h1
theorem BkAt.kept {w w' : World} {b : Bk} {L : List Nat} (h : BkAt w b) (f : Fr L w w') (h0 : b.bp ∉ L) (h1 : b.dp ∉ L) (h2 : ∀ k ∈ b.x.pp :: b.x.own, k ∉ L) : BkAt w' b :=
  ⟨h.po.kept f h2, h.box.kept f h0, h.dl.kept' f h1, h.hd0, h.ls⟩
theorem BkAt.quiet {w w' : World} {b : Bk} (h : BkAt w b) (f : Fr [] w w') : BkAt w' b := h.kept f (by simp) (by simp) (by simp)
theorem BkAt.lt {w : World} {b : Bk} (h : BkAt w b) : ∀ k ∈ b.bp :: b.dp :: b.x.pp :: b.x.own, k < w.heap.size := by
  intro k hk
  rcases List.mem_cons.1 hk with rfl | hk
  · exact h.box.lt
  · rcases List.mem_cons.1 hk with rfl | hk
    · exact h.dl.lt
    · exact h.po.lt k hk
/-- What a book does: what it is behind it, and which memory has changed. -/
structure BStep (w w' : World) (b b' : Bk) : Prop where
  at' : BkAt w' b'
  fr : Fr (b.dp :: b.x.own) w w'
  ow : ∀ k ∈ b'.x.own, k ∈ b.x.own ∨ w.heap.size ≤ k
  bp : b'.bp = b.bp
  dp : b'.dp = b.dp
  pp : b'.x.pp = b.x.pp
theorem BStep.trans {w w1 w2 : World} {b b1 b2 : Bk} (h : BStep w w1 b b1) (k : BStep w1 w2 b1 b2) : BStep w w2 b b2 :=
  ⟨k.at', h.fr.then k.fr (fun i hi hm => by
    rcases List.mem_cons.1 hm with e | e
    · rw [e, h.dp]
      exact List.mem_cons_self
    · exact List.mem_cons_of_mem _ ((h.ow i e).resolve_right (by omega))), fun i hi => (k.ow i hi).elim (fun h1 => h.ow i h1) (fun h1 => Or.inr (Nat.le_trans h.fr.size h1)), k.bp.trans h.bp, k.dp.trans h.dp, k.pp.trans h.pp⟩
theorem BStep.quiet {w w' : World} {b : Bk} (h : BkAt w b) (f : Fr [] w w') : BStep w w' b b := ⟨h.quiet f, f.mono (fun _ _ e => nomatch e), fun _ hk => Or.inl hk, rfl, rfl, rfl⟩
/-- What the pool does, seen from the book. -/
theorem BStep.pool {w w' : World} {b : Bk} (h : BkAt w b) {x' : Po} (st : Step w w' b.x x') (hd : x'.y.d = b.x.y.d) (hp : x'.y.p = b.x.y.p) (hpp : x'.pp = b.x.pp) (h0 : ∀ f ∈ x'.fs, f.hd = 0) (hls : LsOk x'.y) : BStep w w' b { b with x := x' } := by
  have h1 := h.bn
  have h2 := h.dn
  refine ⟨⟨st.at', ?_, h.dl.kept' st.fr (fun e => h2 (List.mem_cons_of_mem _ e)), h0, hls⟩, st.fr.mono (fun _ _ hk => List.mem_cons_of_mem _ hk), st.ow, rfl, rfl, hpp⟩
  show BBox w' b.bp x'.y.d x'.y.p x'.pp b.dp
  rw [hd, hp, hpp]
  exact h.box.kept st.fr (fun e => h1 (List.mem_cons_of_mem _ e))
/-- The transaction's numbers are turned. -/
theorem BStep.deal {w w' : World} {b : Bk} (h : BkAt w b) {t' : Dl} (hd : DlAt w' b.dp t') (f : Fr [b.dp] w w') : BStep w w' b { b with t := t' } := by
  have h2 := h.dn
  exact ⟨⟨h.po.kept f (fun _ hk e => by simp at e; exact h2 (e ▸ hk)), h.box.kept f (by simpa using h.bd), hd, h.hd0, h.ls⟩, f.mono (fun _ _ hk => by simp at hk; simp [hk]), fun _ hk => Or.inl hk, rfl, rfl, rfl⟩
end Go.Proofs.YtopaeomjndblkaaGreat

namespace Go.Proofs.YtopaeomjndblkaaGreat
open Go.RowKit Go.Maps

theorem results_tmp4 {fn : Func} {t u v x : Tmp} (h : fn.results = #[.tmp t, .tmp u, .tmp v, .tmp x]) (tmps : Array Value) (P : Program) (w : World) :
    (results fn tmps).run P w = .ok (.tuple #[tmps.getD t undef, tmps.getD u undef, tmps.getD v undef, tmps.getD x undef]) w := by
  simp [results, h]
theorem place_ok (w : World) (nb : Int) (h0 : 24 ≤ nb) (h1 : nb ≤ 65536) : Calls Tryz.prog 87 #[.int .i64 nb] w fun e w' => e = .returned (.tuple #[.int .i64 2, .int .i64 (nb - 2 - nb / 2), .int .i64 (nb - nb / 2), .int .i64 (nb / 2)]) ∧ w' = w := by
  have q0 : ¬ nb < 24 := by omega
  have q1 : ¬ 65536 < nb := by omega
  have q2 : IntKind.i64.wrap (nb - 2) = nb - 2 := wrapI _ (by omega) (by omega)
  have q3 : IntKind.i64.wrap (nb - 2 - nb / 2) = nb - 2 - nb / 2 := wrapI _ (by omega) (by omega)
  have q4 : IntKind.i64.wrap (nb - nb / 2) = nb - nb / 2 := wrapI _ (by omega) (by omega)
  go_enter Tryz.func87, Tryz.ntmps87
  go_wp2_with fail
  (try simp only [Exit.inBlock, Exit.then])
  refine bodyPost_ret (results_tmp4 rfl _ _ _) rfl ?_
  exact ⟨rfl, rfl⟩
/-- The masters of a device: which one counts. -/
def Mas (S O : Dv.Tab) (m : Mst) : Prop := ∃ m0 m1, Stands (Dv.latest S O 0) 0 m0 ∧ Stands (Dv.latest S O 1) 1 m1 ∧ m = bestM m0 m1 2 ∧ MOk m
theorem Mas.like {S O S' O' : Dv.Tab} {m : Mst} (h : Mas S O m) (h2 : ∀ k : Int, k < 2 → Dv.latest S' O' k = Dv.latest S O k) : Mas S' O' m := by
  obtain ⟨m0, m1, h0, h1, hm, hk⟩ := h
  exact ⟨m0, m1, by rw [h2 0 (by omega)]; exact h0, by rw [h2 1 (by omega)]; exact h1, hm, hk⟩
theorem Stands.seq {l : List UInt8} {k : Int} {m : Mst} (h : Stands l k m) : 0 ≤ m.seq ∧ (m.seq = 0 ∨ m.seq % 2 = k) := by
  cases h with
  | one m h => exact ⟨by have := h.s0; omega, Or.inr rfl⟩
  | none => exact ⟨Int.le_refl _, Or.inl rfl⟩
theorem Mas.put {S O : Dv.Tab} {m m' : Mst} (h : Mas S O m) (hm : MOk m') (hs : m'.seq = m.seq + 1) : Mas S (O.put (m'.seq % 2) (mBytes m')) m' := by
  obtain ⟨m0, m1, h0, h1, hb, hk⟩ := h
  have a0 := h0.seq
  have a1 := h1.seq
  have hk0 := hk.s0
  have ez : ∀ k : Int, k = m'.seq % 2 → Stands (mBytes m') k m' := fun k e => by rw [e]; exact Stands.one m' hm
  by_cases hp : m'.seq % 2 = 0
  · refine ⟨m', m1, ?_, ?_, ?_, hm⟩
    · rw [latest_put, if_pos hp.symm]
      exact ez 0 hp.symm
    · rw [latest_put, if_neg (by omega)]
      exact h1
    · have e1 : later ⟨0, 0, 0⟩ m' = m' := by
        unfold later
        rw [if_pos (by show (0 : Int) < m'.seq; omega)]
      show m' = later (later ⟨0, 0, 0⟩ m') m1
      rw [e1]
      unfold later
      rw [if_neg ?_]
      have hle : m1.seq ≤ m.seq := by
        rw [hb]
        show m1.seq ≤ (later (later ⟨0, 0, 0⟩ m0) m1).seq
        generalize later ⟨0, 0, 0⟩ m0 = q
        unfold later
        split <;> omega
      omega
  · have hp1 : m'.seq % 2 = 1 := by omega
    refine ⟨m0, m', ?_, ?_, ?_, hm⟩
    · rw [latest_put, if_neg (by omega)]
      exact h0
    · rw [latest_put, if_pos hp1.symm]
      exact ez 1 hp1.symm
    · show m' = later (later ⟨0, 0, 0⟩ m0) m'
      have hle : (later ⟨0, 0, 0⟩ m0).seq ≤ m.seq := by
        rw [hb]
        show (later ⟨0, 0, 0⟩ m0).seq ≤ (later (later ⟨0, 0, 0⟩ m0) m1).seq
        generalize later ⟨0, 0, 0⟩ m0 = q
        unfold later
        split <;> omega
      generalize later ⟨0, 0, 0⟩ m0 = q at hle ⊢
      unfold later
      rw [if_pos (by omega)]
theorem mas_read {w : World} {d bs bo : Nat} {nb a : Int} {S O : Dv.Tab} (hd : Dv.Dev w d bs bo nb a false S O) (hn : 2 ≤ nb) {m : Mst} (h : Mas S O m) :
    Calls Tryz.prog 35 #[.pointer (some ⟨d, 0, none⟩)] w fun e w' => e = .returned (.tuple #[.agg (mV m), .int .i64 0]) ∧ Fr [] w w' := by
  obtain ⟨m0, m1, h0, h1, hb, hk⟩ := h
  exact mread_any w d bs bo nb a S O hd hn m0 m1 m h0 h1 hk hb
set_option maxHeartbeats 1000000 in
set_option maxRecDepth 100000 in
theorem new_book {w : World} {x : Po} (h : PoAt w x) {m : Mst} (hm : Mas x.y.S x.y.O m) (hn : 24 ≤ x.y.nb) (hp : (x.pages : Int) = x.y.nb - 2 - x.y.nb / 2) (h0 : ∀ f ∈ x.fs, f.hd = 0) (hls : LsOk x.y) :
    Calls Tryz.prog 39 #[.pointer (some ⟨x.y.d, 0, none⟩), .pointer (some ⟨x.y.p, 0, none⟩), .pointer (some ⟨x.pp, 0, none⟩)] w fun e w' => ∃ bp dp, e = .returned (.pointer (some ⟨bp, 0, none⟩)) ∧ BkAt w' ⟨x, bp, dp, dl0⟩ ∧ w.heap.size ≤ bp ∧ w.heap.size ≤ dp ∧ Fr [] w w' := by
  have HH := hidI h
  have HM := hidI hm
  have HP := hidI hp
  have HL := hidI hls
  have H0 := hidI h0
  have n2 := h.lo.dev.n2
  have p1 := h.p1
  obtain ⟨a1, a2, a3⟩ := m
  have q1 : (((x.y.E : Int) + 1) == 0) = false := by rw [beq_eq_false_iff_ne]; omega
  have q2 : ((x.pages : Int) == 0) = false := by rw [beq_eq_false_iff_ne]; omega
  have q3 : ¬ ((x.y.E : Int) + 1 = 0) := by omega
  have q4 : ¬ ((x.pages : Int) = 0) := by omega
  have q5 : ¬ x.pages = 0 := by omega
  obtain ⟨at', hat⟩ : ∃ at' : Int, x.y.nb - x.y.nb / 2 = at' := ⟨_, rfl⟩
  obtain ⟨cnt, hcnt⟩ : ∃ cnt : Int, x.y.nb / 2 = cnt := ⟨_, rfl⟩
  have HPL : Hid (∀ w', Calls Tryz.prog 87 #[.int .i64 x.y.nb] w' fun e w'' => e = .returned (.tuple #[.int .i64 2, .int .i64 (x.pages : Int), .int .i64 at', .int .i64 cnt]) ∧ w'' = w') := hidI (fun w' => by
    have h9 := place_ok w' x.y.nb hn (by omega)
    rw [hat, ← hp, hcnt] at h9
    exact h9)
  clear h hm hp hls h0 hat hcnt
  go_enter Tryz.func39, Tryz.ntmps39
  go_wp2_with fail
  refine (mas_read HH.out.lo.dev (by omega) HM.out).mono ?_
  unfold mV
  rintro e w2 ⟨rfl, f2⟩
  have f3 : Fr [] w2 (w2.alloc (.cells #[.int .i64 a1, .int .i64 a2, .int .i64 a3] 72)) := (Fr.refl [] w2).alloc _
  obtain ⟨w3, hw3⟩ : ∃ w3, w2.alloc (.cells #[.int .i64 a1, .int .i64 a2, .int .i64 a3] 72) = w3 := ⟨_, rfl⟩
  have F3 : Fr [] w w3 := by rw [← hw3]; exact f2.trans f3
  have P3 := hidI (HH.out.kept F3 (by simp))
  have HPP : Hid (Calls Tryz.prog 17 #[.pointer (some ⟨x.pp, 0, none⟩)] w3 fun e w' => e = .returned (.int .i64 (x.pages : Int)) ∧ w' = w3) := hidI (pages_any P3.out.box)
  go_wp2_with (first
    | (go_at_call 120; refine (Dv.blocks_dev P3.out.lo.dev).mono ?_; rintro e w9 ⟨rfl, hz⟩; rw [hz]; clear hz)
    | (go_at_call 87; refine (HPL.out w3).mono ?_; rintro e w9 ⟨rfl, hz⟩; rw [hz]; clear hz)
    | (go_at_call 77; refine (lo_end P3.out.lo).mono ?_; rintro e w9 ⟨rfl, hz⟩; rw [hz]; clear hz)
    | (go_at_call 17; refine HPP.out.mono ?_; rintro e w9 ⟨rfl, hz⟩; rw [hz]; clear hz))
  go_ret
  have g1 : Fr [] w3 (w3.alloc (.cells #[.int .i64 0, .int .i64 0, .int .i64 0, .int .i64 0, .int .i64 0, .int .i64 0, .int .i64 0] 168)) := (Fr.refl [] w3).alloc _
  have d1 := heap_alloc_new w3 (.cells #[.int .i64 0, .int .i64 0, .int .i64 0, .int .i64 0, .int .i64 0, .int .i64 0, .int .i64 0] 168)
  have s1 : (w3.alloc (.cells #[.int .i64 0, .int .i64 0, .int .i64 0, .int .i64 0, .int .i64 0, .int .i64 0, .int .i64 0] 168)).heap.size = w3.heap.size + 1 := by simp
  obtain ⟨w4, hw4⟩ : ∃ w4, w3.alloc (.cells #[.int .i64 0, .int .i64 0, .int .i64 0, .int .i64 0, .int .i64 0, .int .i64 0, .int .i64 0] 168) = w4 := ⟨_, rfl⟩
  rw [hw4] at g1 d1 s1
  have g2 : Fr [] w4 (w4.alloc (.cells #[.pointer (some ⟨x.y.d, 0, none⟩), .pointer (some ⟨x.y.p, 0, none⟩), .pointer (some ⟨x.pp, 0, none⟩), .pointer (some ⟨w3.heap.size, 0, none⟩)] 75)) := (Fr.refl [] w4).alloc _
  have d2 := heap_alloc_new w4 (.cells #[.pointer (some ⟨x.y.d, 0, none⟩), .pointer (some ⟨x.y.p, 0, none⟩), .pointer (some ⟨x.pp, 0, none⟩), .pointer (some ⟨w3.heap.size, 0, none⟩)] 75)
  rw [s1] at d2
  have le := F3.size
  refine ⟨w3.heap.size + 1, w3.heap.size, rfl, ?_, by omega, by omega, ?_⟩
  · try simp only [hw4]
    exact ⟨P3.out.kept (g1.trans g2) (by simp), d2, g2.same (by simp) d1, H0.out, HL.out⟩
  · try simp only [hw4]
    exact F3.trans (g1.trans g2)
end Go.Proofs.YtopaeomjndblkaaGreat

namespace Go.Proofs.YtopaeomjndblkaaGreat
open Go.RowKit Go.Maps

theorem LsOk.app {y y' : Lo} {N : Nat} {r : Rec} (h : LsOk y) (a : Appd y y' N r) (hAE : y.A ≤ y.E) (hN : 1 ≤ N) : LsOk y' := by
  refine ⟨?_, ?_⟩
  · rw [a.ls, List.pairwise_append]
    refine ⟨h.rise, by simp, fun v hv u hu => ?_⟩
    simp at hu
    have := (h.le v hv).2
    omega
  · intro v hv
    rw [a.ls, List.mem_append] at hv
    rw [a.A, a.E]
    rcases hv with hv | hv
    · have := h.le v hv
      omega
    · simp at hv
      omega
/-- The record that is appended: the transaction's number, the lsn of its record ahead. -/
def txRec (t : Dl) (r : Rec) : Rec := { r with tx := t.num, prev := t.last }
theorem Step.appd {w w' : World} {x : Po} (h : PoAt w x) {y' : Lo} {N : Nat} {r : Rec} (hy : LoAt w' y') (a : Appd x.y y' N r) (how : ∀ k ∈ y'.own, k ∈ x.y.own ∨ w.heap.size ≤ k) (f : Fr x.y.own w w') : Step w w' x { x with y := y' } :=
  Step.lower h hy f (fun _ hk => hk) how a.d a.p a.bs a.bo a.nb a.first a.count (by rw [a.E]; omega) (fun q hq => by unfold pgD; rw [a.S, a.O]) a.lw
set_option maxHeartbeats 2000000 in
set_option maxRecDepth 100000 in
theorem badd_any {w : World} {b : Bk} (h : BkAt w b) (r : Rec) (s : Spots) (hs : SpotsAt w r s) {N : Nat} (hr : rightB { txRec b.t r with lsn := (b.x.y.E : Int) + 1, turn := (b.x.y.T : Int) } = true) (hN : (encL { txRec b.t r with lsn := (b.x.y.E : Int) + 1, turn := (b.x.y.T : Int) }).length = N) (hroom : (N : Int) ≤ 408 * (b.x.y.count - 1) - ((b.x.y.E : Int) - (b.x.y.A : Int))) (hE : b.x.y.E + N ≤ 400000) :
    Calls Tryz.prog 200 #[.pointer (some ⟨b.bp, 0, none⟩), .agg (recV r s)] w fun e w' => e = .returned (.int .i64 0) ∧ ∃ y', Appd b.x.y y' N (txRec b.t r) ∧ BStep w w' b { b with x := { b.x with y := y' }, t := { b.t with last := (b.x.y.E : Int) + 1 } } := by
  have HH := hidI h
  have HS := hidI hs
  have HR := hidI hr
  have HN := hidI hN
  have rb : RBox (w.alloc (.cells (recV r s) 192)) w.heap.size r s := heap_alloc_new w _
  have f1 : Fr [] w (w.alloc (.cells (recV r s) 192)) := (Fr.refl [] w).alloc _
  have hlt := hidI h.lt
  clear h hs hr hN
  unfold RBox recV at rb
  unfold recV at f1
  unfold recV
  go_enter Tryz.func200, Tryz.ntmps200
  obtain ⟨w1, hw1⟩ : ∃ w1, w.alloc (.cells #[.int .i64 r.lsn, .int .i64 r.turn, .int .u8 (r.kind : Int), .int .i64 r.tx, .int .i64 r.prev, .int .i64 r.next, .int .i64 r.block, .int .i64 r.off, .slice s.a1 r.old.length s.c1, .slice s.a2 r.new.length s.c2] 192) = w1 := ⟨_, rfl⟩
  rw [hw1] at rb f1
  have H1 := hidI (HH.out.quiet f1)
  have c3 : w1.cell? ⟨b.bp, 3, none⟩ = some (.pointer (some ⟨b.dp, 0, none⟩)) := H1.out.box.c3
  have c1 : w1.cell? ⟨b.bp, 1, none⟩ = some (.pointer (some ⟨b.x.y.p, 0, none⟩)) := H1.out.box.c1
  have d1 := H1.out.dl.c1
  have d3 := H1.out.dl.c3
  have R1 : RBox w1 w.heap.size r s := rb
  have x3 := R1.c3
  have x4 := R1.c4
  have z3 := R1.fz 3
  have z4 := R1.fz 4
  clear rb
  go_wp2_with fail
  obtain ⟨Z, HZ⟩ : ∃ Z, Hid (w.heap.size = Z) := ⟨_, rfl⟩
  have hbl : b.bp < w.heap.size := hlt.out _ (by simp)
  have hdl : b.dp < w.heap.size := hlt.out _ (by simp)
  rw [HZ.out] at R1 x3 x4 z3 z4 hbl hdl ⊢
  go_region
  have R2 := ((R1.s3 b.t.num).s4 b.t.last).kept (Fr.refl [] _).drew (by simp)
  have fz2 : Fr [Z] w1 ((w1.setCell ⟨Z, 3, none⟩ (.int .i64 b.t.num)).setCell ⟨Z, 4, none⟩ (.int .i64 b.t.last)).drew := ((fr_set w1 Z 3 _).trans (fr_set _ Z 4 _)).drew
  have F2 : Fr [] w ((w1.setCell ⟨Z, 3, none⟩ (.int .i64 b.t.num)).setCell ⟨Z, 4, none⟩ (.int .i64 b.t.last)).drew := f1.then fz2 (fun i hi hm => by simp at hm; have h := HZ.out; omega)
  clear x3 x4 z3 z4 c1 c3 d1 d3 R1 fz2 H1
  generalize ((w1.setCell ⟨Z, 3, none⟩ (.int .i64 b.t.num)).setCell ⟨Z, 4, none⟩ (.int .i64 b.t.last)).drew = w2 at R2 F2 ⊢
  have H2 := hidI (HH.out.quiet F2)
  have e1 : w2.cell? ⟨b.bp, 1, none⟩ = some (.pointer (some ⟨b.x.y.p, 0, none⟩)) := H2.out.box.c1
  have x0 : w2.cell? ⟨Z, 0, none⟩ = some (.int .i64 r.lsn) := R2.c0
  have x1 : w2.cell? ⟨Z, 1, none⟩ = some (.int .i64 r.turn) := R2.c1
  have x2 : w2.cell? ⟨Z, 2, none⟩ = some (.int .u8 (r.kind : Int)) := R2.c2
  have x3 : w2.cell? ⟨Z, 3, none⟩ = some (.int .i64 b.t.num) := R2.c3
  have x4 : w2.cell? ⟨Z, 4, none⟩ = some (.int .i64 b.t.last) := R2.c4
  have x5 : w2.cell? ⟨Z, 5, none⟩ = some (.int .i64 r.next) := R2.c5
  have x6 : w2.cell? ⟨Z, 6, none⟩ = some (.int .i64 r.block) := R2.c6
  have x7 : w2.cell? ⟨Z, 7, none⟩ = some (.int .i64 r.off) := R2.c7
  have x8 : w2.cell? ⟨Z, 8, none⟩ = some (.slice s.a1 r.old.length s.c1) := R2.c8
  have x9 : w2.cell? ⟨Z, 9, none⟩ = some (.slice s.a2 r.new.length s.c2) := R2.c9
  have HAP : Hid (∀ w', Fr [] w w' → Calls Tryz.prog 170 #[.pointer (some ⟨b.x.y.p, 0, none⟩), .agg #[.int .i64 r.lsn, .int .i64 r.turn, .int .u8 (r.kind : Int), .int .i64 b.t.num, .int .i64 b.t.last, .int .i64 r.next, .int .i64 r.block, .int .i64 r.off, .slice s.a1 r.old.length s.c1, .slice s.a2 r.new.length s.c2]] w' fun e w'' => e = .returned (.tuple #[.int .i64 ((b.x.y.E : Int) + 1), .int .i64 0]) ∧ ∃ y', LoAt w'' y' ∧ Appd b.x.y y' N (txRec b.t r) ∧ (∀ k ∈ y'.own, k ∈ b.x.y.own ∨ w'.heap.size ≤ k) ∧ Fr b.x.y.own w' w'') := hidI (fun w' f => lo_append (HH.out.quiet f).po.lo (txRec b.t r) s ⟨(HS.out.kept f).b1, (HS.out.kept f).b2, HS.out.n1, HS.out.n2⟩ HR.out HN.out hroom hE)
  go_wp2_with fail
  go_region_law ((go_simp; go_at_call 170; refine (HAP.out _ (by first | exact F2.drew | exact F2)).mono ?_; rintro e w3 ⟨rfl, y', L3, A3, O3, f3⟩))
  all_goals
    have f23 : Fr b.x.y.own w w3 := (F2.drew.mono (fun _ _ e => nomatch e)).trans f3
    have O3' : ∀ k ∈ y'.own, k ∈ b.x.y.own ∨ w.heap.size ≤ k := fun k hk => (O3 k hk).imp id (fun h1 => Nat.le_trans F2.size h1)
    have ST := Step.appd HH.out.po L3 A3 O3' f23
    have hNN : 1 ≤ N := by
      have h1 := body_bounds HR.out
      have h3 := HN.out
      rw [encL_length] at h3
      try dsimp only at h1
      try dsimp only at h3
      omega
    have B3 := BStep.pool HH.out ST A3.d A3.p rfl HH.out.hd0 (HH.out.ls.app A3 HH.out.po.lo.hAE hNN)
    have HB3 := hidI B3
    have c3 : w3.cell? ⟨b.bp, 3, none⟩ = some (.pointer (some ⟨b.dp, 0, none⟩)) := B3.at'.box.c3
    have d3 := B3.at'.dl.c3
    have z3 := B3.at'.dl.fz 3
    have D4 := B3.at'.dl.s3 ((b.x.y.E : Int) + 1)
    clear B3 ST
    go_wp2_with fail
    go_ret
    exact ⟨rfl, y', A3, HB3.out.trans (BStep.deal HB3.out.at' D4 (fr_set _ _ _ _))⟩
end Go.Proofs.YtopaeomjndblkaaGreat


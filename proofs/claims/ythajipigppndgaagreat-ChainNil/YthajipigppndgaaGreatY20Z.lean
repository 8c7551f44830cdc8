/-
  What a page is, whatever frames there are: its value.
-/
import Derived.Test.YthajipigppndgaaGreatY17Z
import Derived.Test.YthajipigppndgaaGreatY19Z
import Derived.Test.YthajipigppndgaaGreatY12Z
import Derived.Test.YthajipigppndgaaGreatY16Z
import Derived.Test.YthajipigppndgaaGreatY08Z
namespace Go.Proofs.YthajipigppndgaaGreat
open Go.RowKit Go.Maps

structure Bk where
  x : Po
  bp : Nat
  dp : Nat
  t : Dl
/-- A book in memory; none of its pages is held. -/
structure BkAt (w : World) (b : Bk) : Prop where
  po : PoAt w b.x
  box : BBox w b.bp b.x.y.d b.x.y.p b.x.pp b.dp
  dl : DlAt w b.dp b.t
  hd0 : ∀ f ∈ b.x.fs, f.hd = 0
  ls : LsOk b.x.y
theorem po_notin {w : World} {x : Po} (h : PoAt w x) {k : Nat} {cur : Array Value} {t : TypeId} (hk : w.heap[k]? = some (.cells cur t)) (h1 : t ≠ 153 ∧ t ≠ 168 ∧ t ≠ 5 ∧ t ≠ 2) (h2 : t ≠ 200 ∧ t ≠ 195 ∧ t ≠ 315) (h3 : t ≠ 140) : k ∉ x.pp :: x.own := by
  intro hm
  simp only [Po.own, List.mem_cons, List.mem_append] at hm
  rcases hm with rfl | rfl | hm | hm
  · have h4 := h.box
    unfold PBox' at h4
    rw [h4] at hk
    cases hk
    exact h3 rfl
  · obtain ⟨S, hS, _⟩ := h.mp
    exact hS.notcells _ _ hk
  · obtain ⟨cur', t', hc, ht⟩ := h.rn.types _ hm
    rw [hc] at hk
    cases hk
    rcases ht with e | e | e
    · exact absurd e (by first | exact h2.1 | exact h2.2.1 | exact h2.2.2)
    · exact absurd e (by first | exact h2.1 | exact h2.2.1 | exact h2.2.2)
    · exact absurd e (by first | exact h2.1 | exact h2.2.1 | exact h2.2.2)
  · rcases (h.lo.types _ hm).2 _ _ hk with e | e | e | e
    · exact h1.1 e
    · exact h1.2.1 e
    · exact h1.2.2.1 e
    · exact h1.2.2.2 e
theorem BkAt.bn {w : World} {b : Bk} (h : BkAt w b) : b.bp ∉ b.x.pp :: b.x.own := po_notin h.po h.box (by decide) (by decide) (by decide)
theorem BkAt.dn {w : World} {b : Bk} (h : BkAt w b) : b.dp ∉ b.x.pp :: b.x.own := po_notin h.po h.dl (by decide) (by decide) (by decide)
theorem BkAt.bd {w : World} {b : Bk} (h : BkAt w b) : b.bp ≠ b.dp := fun e => by
  have h1 := h.box
  have h2 := h.dl
  unfold BBox at h1
  unfold DlAt at h2
  rw [e, h2] at h1
  cases h1
theorem BkAt.kept {w w' : World} {b : Bk} {L : List Nat} (h : BkAt w b) (f : Fr L w w') (h0 : b.bp ∉ L) (h1 : b.dp ∉ L) (h2 : ∀ k ∈ b.x.pp :: b.x.own, k ∉ L) : BkAt w' b :=
  ⟨h.po.kept f h2, h.box.kept f h0, h.dl.kept' f h1, h.hd0, h.ls⟩
theorem BkAt.quiet {w w' : World} {b : Bk} (h : BkAt w b) (f : Fr [] w w') : BkAt w' b := h.kept f (by simp) (by simp) (by simp)
theorem BkAt.lt {w : World} {b : Bk} (h : BkAt w b) : ∀ k ∈ b.bp :: b.dp :: b.x.pp :: b.x.own, k < w.heap.size := by
  intro k hk
  rcases List.mem_cons.1 hk with rfl | hk
  · exact h.box.lt
  · rcases List.mem_cons.1 hk with rfl | hk
    · exact h.dl.lt
    · exact h.po.lt k hk
/-- What a book does: what it is behind it, and which memory has changed. -/
structure BStep (w w' : World) (b b' : Bk) : Prop where
  at' : BkAt w' b'
  fr : Fr (b.dp :: b.x.own) w w'
  ow : ∀ k ∈ b'.x.own, k ∈ b.x.own ∨ w.heap.size ≤ k
  bp : b'.bp = b.bp
  dp : b'.dp = b.dp
  pp : b'.x.pp = b.x.pp
theorem BStep.trans {w w1 w2 : World} {b b1 b2 : Bk} (h : BStep w w1 b b1) (k : BStep w1 w2 b1 b2) : BStep w w2 b b2 :=
  ⟨k.at', h.fr.then k.fr (fun i hi hm => by
    rcases List.mem_cons.1 hm with e | e
    · rw [e, h.dp]
      exact List.mem_cons_self
    · exact List.mem_cons_of_mem _ ((h.ow i e).resolve_right (by omega))), fun i hi => (k.ow i hi).elim (fun h1 => h.ow i h1) (fun h1 => Or.inr (Nat.le_trans h.fr.size h1)), k.bp.trans h.bp, k.dp.trans h.dp, k.pp.trans h.pp⟩
theorem BStep.quiet {w w' : World} {b : Bk} (h : BkAt w b) (f : Fr [] w w') : BStep w w' b b := ⟨h.quiet f, f.mono (fun _ _ e => nomatch e), fun _ hk => Or.inl hk, rfl, rfl, rfl⟩
/-- What the pool does, seen from the book. -/
theorem BStep.pool {w w' : World} {b : Bk} (h : BkAt w b) {x' : Po} (st : Step w w' b.x x') (hd : x'.y.d = b.x.y.d) (hp : x'.y.p = b.x.y.p) (hpp : x'.pp = b.x.pp) (h0 : ∀ f ∈ x'.fs, f.hd = 0) (hls : LsOk x'.y) : BStep w w' b { b with x := x' } := by
  have h1 := h.bn
  have h2 := h.dn
  refine ⟨⟨st.at', ?_, h.dl.kept' st.fr (fun e => h2 (List.mem_cons_of_mem _ e)), h0, hls⟩, st.fr.mono (fun _ _ hk => List.mem_cons_of_mem _ hk), st.ow, rfl, rfl, hpp⟩
  show BBox w' b.bp x'.y.d x'.y.p x'.pp b.dp
  rw [hd, hp, hpp]
  exact h.box.kept st.fr (fun e => h1 (List.mem_cons_of_mem _ e))
/-- The transaction's numbers are turned. -/
theorem BStep.deal {w w' : World} {b : Bk} (h : BkAt w b) {t' : Dl} (hd : DlAt w' b.dp t') (f : Fr [b.dp] w w') : BStep w w' b { b with t := t' } := by
  have h2 := h.dn
  exact ⟨⟨h.po.kept f (fun _ hk e => by simp at e; exact h2 (e ▸ hk)), h.box.kept f (by simpa using h.bd), hd, h.hd0, h.ls⟩, f.mono (fun _ _ hk => by simp at hk; simp [hk]), fun _ hk => Or.inl hk, rfl, rfl, rfl⟩
end Go.Proofs.YthajipigppndgaaGreat

namespace Go.Proofs.YthajipigppndgaaGreat
open Go.RowKit Go.Maps

theorem results_tmp4 {fn : Func} {t u v x : Tmp} (h : fn.results = #[.tmp t, .tmp u, .tmp v, .tmp x]) (tmps : Array Value) (P : Program) (w : World) :
    (results fn tmps).run P w = .ok (.tuple #[tmps.getD t undef, tmps.getD u undef, tmps.getD v undef, tmps.getD x undef]) w := by
  simp [results, h]
theorem place_ok (w : World) (nb : Int) (h0 : 24 ≤ nb) (h1 : nb ≤ 65536) : Calls Tryz.prog 197 #[.int .i64 nb] w fun e w' => e = .returned (.tuple #[.int .i64 2, .int .i64 (nb - 2 - nb / 2), .int .i64 (nb - nb / 2), .int .i64 (nb / 2)]) ∧ w' = w := by
  have q0 : ¬ nb < 24 := by omega
  have q1 : ¬ 65536 < nb := by omega
  have q2 : IntKind.i64.wrap (nb - 2) = nb - 2 := wrapI _ (by omega) (by omega)
  have q3 : IntKind.i64.wrap (nb - 2 - nb / 2) = nb - 2 - nb / 2 := wrapI _ (by omega) (by omega)
  have q4 : IntKind.i64.wrap (nb - nb / 2) = nb - nb / 2 := wrapI _ (by omega) (by omega)
  go_enter Tryz.func197, Tryz.ntmps197
  go_wp2_with fail
  (try simp only [Exit.inBlock, Exit.then])
  refine bodyPost_ret (results_tmp4 rfl _ _ _) rfl ?_
  exact ⟨rfl, rfl⟩
/-- The masters of a device: which one counts. -/
def Mas (S O : Dv.Tab) (m : Mst) : Prop := ∃ m0 m1, Stands (Dv.latest S O 0) 0 m0 ∧ Stands (Dv.latest S O 1) 1 m1 ∧ m = bestM m0 m1 2 ∧ MOk m
theorem Mas.like {S O S' O' : Dv.Tab} {m : Mst} (h : Mas S O m) (h2 : ∀ k : Int, k < 2 → Dv.latest S' O' k = Dv.latest S O k) : Mas S' O' m := by
  obtain ⟨m0, m1, h0, h1, hm, hk⟩ := h
  exact ⟨m0, m1, by rw [h2 0 (by omega)]; exact h0, by rw [h2 1 (by omega)]; exact h1, hm, hk⟩
theorem Stands.seq {l : List UInt8} {k : Int} {m : Mst} (h : Stands l k m) : 0 ≤ m.seq ∧ (m.seq = 0 ∨ m.seq % 2 = k) := by
  cases h with
  | one m h => exact ⟨by have := h.s0; omega, Or.inr rfl⟩
  | none => exact ⟨Int.le_refl _, Or.inl rfl⟩
theorem Mas.put {S O : Dv.Tab} {m m' : Mst} (h : Mas S O m) (hm : MOk m') (hs : m'.seq = m.seq + 1) : Mas S (O.put (m'.seq % 2) (mBytes m')) m' := by
  obtain ⟨m0, m1, h0, h1, hb, hk⟩ := h
  have a0 := h0.seq
  have a1 := h1.seq
  have hk0 := hk.s0
  have ez : ∀ k : Int, k = m'.seq % 2 → Stands (mBytes m') k m' := fun k e => by rw [e]; exact Stands.one m' hm
  by_cases hp : m'.seq % 2 = 0
  · refine ⟨m', m1, ?_, ?_, ?_, hm⟩
    · rw [latest_put, if_pos hp.symm]
      exact ez 0 hp.symm
    · rw [latest_put, if_neg (by omega)]
      exact h1
    · have e1 : later ⟨0, 0, 0⟩ m' = m' := by
        unfold later
        rw [if_pos (by show (0 : Int) < m'.seq; omega)]
      show m' = later (later ⟨0, 0, 0⟩ m') m1
      rw [e1]
      unfold later
      rw [if_neg ?_]
      have hle : m1.seq ≤ m.seq := by
        rw [hb]
        show m1.seq ≤ (later (later ⟨0, 0, 0⟩ m0) m1).seq
        generalize later ⟨0, 0, 0⟩ m0 = q
        unfold later
        split <;> omega
      omega
  · have hp1 : m'.seq % 2 = 1 := by omega
    refine ⟨m0, m', ?_, ?_, ?_, hm⟩
    · rw [latest_put, if_neg (by omega)]
      exact h0
    · rw [latest_put, if_pos hp1.symm]
      exact ez 1 hp1.symm
    · show m' = later (later ⟨0, 0, 0⟩ m0) m'
      have hle : (later ⟨0, 0, 0⟩ m0).seq ≤ m.seq := by
        rw [hb]
        show (later ⟨0, 0, 0⟩ m0).seq ≤ (later (later ⟨0, 0, 0⟩ m0) m1).seq
        generalize later ⟨0, 0, 0⟩ m0 = q
        unfold later
        split <;> omega
      generalize later ⟨0, 0, 0⟩ m0 = q at hle ⊢
      unfold later
      rw [if_pos (by omega)]
theorem mas_read {w : World} {d bs bo : Nat} {nb a : Int} {S O : Dv.Tab} (hd : Dv.Dev w d bs bo nb a false S O) (hn : 2 ≤ nb) {m : Mst} (h : Mas S O m) :
    Calls Tryz.prog 181 #[.pointer (some ⟨d, 0, none⟩)] w fun e w' => e = .returned (.tuple #[.agg (mV m), .int .i64 0]) ∧ Fr [] w w' := by
  obtain ⟨m0, m1, h0, h1, hb, hk⟩ := h
  exact mread_any w d bs bo nb a S O hd hn m0 m1 m h0 h1 hk hb
set_option maxHeartbeats 1000000 in
set_option maxRecDepth 100000 in
theorem new_book {w : World} {x : Po} (h : PoAt w x) {m : Mst} (hm : Mas x.y.S x.y.O m) (hn : 24 ≤ x.y.nb) (hp : (x.pages : Int) = x.y.nb - 2 - x.y.nb / 2) (h0 : ∀ f ∈ x.fs, f.hd = 0) (hls : LsOk x.y) :
    Calls Tryz.prog 129 #[.pointer (some ⟨x.y.d, 0, none⟩), .pointer (some ⟨x.y.p, 0, none⟩), .pointer (some ⟨x.pp, 0, none⟩)] w fun e w' => ∃ bp dp, e = .returned (.pointer (some ⟨bp, 0, none⟩)) ∧ BkAt w' ⟨x, bp, dp, dl0⟩ ∧ w.heap.size ≤ bp ∧ w.heap.size ≤ dp ∧ Fr [] w w' := by
  have HH := hidI h
  have HM := hidI hm
  have HP := hidI hp
  have HL := hidI hls
  have H0 := hidI h0
  have n2 := h.lo.dev.n2
  have p1 := h.p1
  obtain ⟨a1, a2, a3⟩ := m
  have q1 : (((x.y.E : Int) + 1) == 0) = false := by rw [beq_eq_false_iff_ne]; omega
  have q2 : ((x.pages : Int) == 0) = false := by rw [beq_eq_false_iff_ne]; omega
  have q3 : ¬ ((x.y.E : Int) + 1 = 0) := by omega
  have q4 : ¬ ((x.pages : Int) = 0) := by omega
  have q5 : ¬ x.pages = 0 := by omega
  obtain ⟨at', hat⟩ : ∃ at' : Int, x.y.nb - x.y.nb / 2 = at' := ⟨_, rfl⟩
  obtain ⟨cnt, hcnt⟩ : ∃ cnt : Int, x.y.nb / 2 = cnt := ⟨_, rfl⟩
  have HPL : Hid (∀ w', Calls Tryz.prog 197 #[.int .i64 x.y.nb] w' fun e w'' => e = .returned (.tuple #[.int .i64 2, .int .i64 (x.pages : Int), .int .i64 at', .int .i64 cnt]) ∧ w'' = w') := hidI (fun w' => by
    have h9 := place_ok w' x.y.nb hn (by omega)
    rw [hat, ← hp, hcnt] at h9
    exact h9)
  clear h hm hp hls h0 hat hcnt
  go_enter Tryz.func129, Tryz.ntmps129
  go_wp2_with fail
  refine (mas_read HH.out.lo.dev (by omega) HM.out).mono ?_
  unfold mV
  rintro e w2 ⟨rfl, f2⟩
  have f3 : Fr [] w2 (w2.alloc (.cells #[.int .i64 a1, .int .i64 a2, .int .i64 a3] 159)) := (Fr.refl [] w2).alloc _
  obtain ⟨w3, hw3⟩ : ∃ w3, w2.alloc (.cells #[.int .i64 a1, .int .i64 a2, .int .i64 a3] 159) = w3 := ⟨_, rfl⟩
  have F3 : Fr [] w w3 := by rw [← hw3]; exact f2.trans f3
  have P3 := hidI (HH.out.kept F3 (by simp))
  have HPP : Hid (Calls Tryz.prog 43 #[.pointer (some ⟨x.pp, 0, none⟩)] w3 fun e w' => e = .returned (.int .i64 (x.pages : Int)) ∧ w' = w3) := hidI (pages_any P3.out.box)
  go_wp2_with (first
    | (go_at_call 120; refine (Dv.blocks_dev P3.out.lo.dev).mono ?_; rintro e w9 ⟨rfl, hz⟩; rw [hz]; clear hz)
    | (go_at_call 197; refine (HPL.out w3).mono ?_; rintro e w9 ⟨rfl, hz⟩; rw [hz]; clear hz)
    | (go_at_call 62; refine (lo_end P3.out.lo).mono ?_; rintro e w9 ⟨rfl, hz⟩; rw [hz]; clear hz)
    | (go_at_call 43; refine HPP.out.mono ?_; rintro e w9 ⟨rfl, hz⟩; rw [hz]; clear hz))
  go_ret
  have g1 : Fr [] w3 (w3.alloc (.cells #[.int .i64 0, .int .i64 0, .int .i64 0, .int .i64 0, .int .i64 0, .int .i64 0, .int .i64 0] 93)) := (Fr.refl [] w3).alloc _
  have d1 := heap_alloc_new w3 (.cells #[.int .i64 0, .int .i64 0, .int .i64 0, .int .i64 0, .int .i64 0, .int .i64 0, .int .i64 0] 93)
  have s1 : (w3.alloc (.cells #[.int .i64 0, .int .i64 0, .int .i64 0, .int .i64 0, .int .i64 0, .int .i64 0, .int .i64 0] 93)).heap.size = w3.heap.size + 1 := by simp
  obtain ⟨w4, hw4⟩ : ∃ w4, w3.alloc (.cells #[.int .i64 0, .int .i64 0, .int .i64 0, .int .i64 0, .int .i64 0, .int .i64 0, .int .i64 0] 93) = w4 := ⟨_, rfl⟩
  rw [hw4] at g1 d1 s1
  have g2 : Fr [] w4 (w4.alloc (.cells #[.pointer (some ⟨x.y.d, 0, none⟩), .pointer (some ⟨x.y.p, 0, none⟩), .pointer (some ⟨x.pp, 0, none⟩), .pointer (some ⟨w3.heap.size, 0, none⟩)] 38)) := (Fr.refl [] w4).alloc _
  have d2 := heap_alloc_new w4 (.cells #[.pointer (some ⟨x.y.d, 0, none⟩), .pointer (some ⟨x.y.p, 0, none⟩), .pointer (some ⟨x.pp, 0, none⟩), .pointer (some ⟨w3.heap.size, 0, none⟩)] 38)
  rw [s1] at d2
  have le := F3.size
  refine ⟨w3.heap.size + 1, w3.heap.size, rfl, ?_, by omega, by omega, ?_⟩
  · try simp only [hw4]
    exact ⟨P3.out.kept (g1.trans g2) (by simp), d2, g2.same (by simp) d1, H0.out, HL.out⟩
  · try simp only [hw4]
    exact F3.trans (g1.trans g2)
end Go.Proofs.YthajipigppndgaaGreat

namespace Go.Proofs.YthajipigppndgaaGreat
open Go.RowKit Go.Maps

theorem LsOk.app {y y' : Lo} {N : Nat} {r : Rec} (h : LsOk y) (a : Appd y y' N r) (hAE : y.A ≤ y.E) (hN : 1 ≤ N) : LsOk y' := by
  refine ⟨?_, ?_⟩
  · rw [a.ls, List.pairwise_append]
    refine ⟨h.rise, by simp, fun v hv u hu => ?_⟩
    simp at hu
    have := (h.le v hv).2
    omega
  · intro v hv
    rw [a.ls, List.mem_append] at hv
    rw [a.A, a.E]
    rcases hv with hv | hv
    · have := h.le v hv
      omega
    · simp at hv
      omega
/-- The record that is appended: the transaction's number, the lsn of its record ahead. -/
def txRec (t : Dl) (r : Rec) : Rec := { r with tx := t.num, prev := t.last }
theorem Step.appd {w w' : World} {x : Po} (h : PoAt w x) {y' : Lo} {N : Nat} {r : Rec} (hy : LoAt w' y') (a : Appd x.y y' N r) (how : ∀ k ∈ y'.own, k ∈ x.y.own ∨ w.heap.size ≤ k) (f : Fr x.y.own w w') : Step w w' x { x with y := y' } :=
  Step.lower h hy f (fun _ hk => hk) how a.d a.p a.bs a.bo a.nb a.first a.count (by rw [a.E]; omega) (fun q hq => by unfold pgD; rw [a.S, a.O]) a.lw
set_option maxHeartbeats 2000000 in
set_option maxRecDepth 100000 in
theorem badd_any {w : World} {b : Bk} (h : BkAt w b) (r : Rec) (s : Spots) (hs : SpotsAt w r s) {N : Nat} (hr : rightB { txRec b.t r with lsn := (b.x.y.E : Int) + 1, turn := (b.x.y.T : Int) } = true) (hN : (encL { txRec b.t r with lsn := (b.x.y.E : Int) + 1, turn := (b.x.y.T : Int) }).length = N) (hroom : (N : Int) ≤ 408 * (b.x.y.count - 1) - ((b.x.y.E : Int) - (b.x.y.A : Int))) (hE : b.x.y.E + N ≤ 400000) :
    Calls Tryz.prog 98 #[.pointer (some ⟨b.bp, 0, none⟩), .agg (recV r s)] w fun e w' => e = .returned (.int .i64 0) ∧ ∃ y', Appd b.x.y y' N (txRec b.t r) ∧ BStep w w' b { b with x := { b.x with y := y' }, t := { b.t with last := (b.x.y.E : Int) + 1 } } := by
  have HH := hidI h
  have HS := hidI hs
  have HR := hidI hr
  have HN := hidI hN
  have rb : RBox (w.alloc (.cells (recV r s) 148)) w.heap.size r s := heap_alloc_new w _
  have f1 : Fr [] w (w.alloc (.cells (recV r s) 148)) := (Fr.refl [] w).alloc _
  have hlt := hidI h.lt
  clear h hs hr hN
  unfold RBox recV at rb
  unfold recV at f1
  unfold recV
  go_enter Tryz.func98, Tryz.ntmps98
  obtain ⟨w1, hw1⟩ : ∃ w1, w.alloc (.cells #[.int .i64 r.lsn, .int .i64 r.turn, .int .u8 (r.kind : Int), .int .i64 r.tx, .int .i64 r.prev, .int .i64 r.next, .int .i64 r.block, .int .i64 r.off, .slice s.a1 r.old.length s.c1, .slice s.a2 r.new.length s.c2] 148) = w1 := ⟨_, rfl⟩
  rw [hw1] at rb f1
  have H1 := hidI (HH.out.quiet f1)
  have c3 : w1.cell? ⟨b.bp, 3, none⟩ = some (.pointer (some ⟨b.dp, 0, none⟩)) := H1.out.box.c3
  have c1 : w1.cell? ⟨b.bp, 1, none⟩ = some (.pointer (some ⟨b.x.y.p, 0, none⟩)) := H1.out.box.c1
  have d1 := H1.out.dl.c1
  have d3 := H1.out.dl.c3
  have R1 : RBox w1 w.heap.size r s := rb
  have x3 := R1.c3
  have x4 := R1.c4
  have z3 := R1.fz 3
  have z4 := R1.fz 4
  clear rb
  go_wp2_with fail
  obtain ⟨Z, HZ⟩ : ∃ Z, Hid (w.heap.size = Z) := ⟨_, rfl⟩
  have hbl : b.bp < w.heap.size := hlt.out _ (by simp)
  have hdl : b.dp < w.heap.size := hlt.out _ (by simp)
  rw [HZ.out] at R1 x3 x4 z3 z4 hbl hdl ⊢
  go_region
  have R2 := ((R1.s3 b.t.num).s4 b.t.last).kept (Fr.refl [] _).drew (by simp)
  have fz2 : Fr [Z] w1 ((w1.setCell ⟨Z, 3, none⟩ (.int .i64 b.t.num)).setCell ⟨Z, 4, none⟩ (.int .i64 b.t.last)).drew := ((fr_set w1 Z 3 _).trans (fr_set _ Z 4 _)).drew
  have F2 : Fr [] w ((w1.setCell ⟨Z, 3, none⟩ (.int .i64 b.t.num)).setCell ⟨Z, 4, none⟩ (.int .i64 b.t.last)).drew := f1.then fz2 (fun i hi hm => by simp at hm; have h := HZ.out; omega)
  clear x3 x4 z3 z4 c1 c3 d1 d3 R1 fz2 H1
  generalize ((w1.setCell ⟨Z, 3, none⟩ (.int .i64 b.t.num)).setCell ⟨Z, 4, none⟩ (.int .i64 b.t.last)).drew = w2 at R2 F2 ⊢
  have H2 := hidI (HH.out.quiet F2)
  have e1 : w2.cell? ⟨b.bp, 1, none⟩ = some (.pointer (some ⟨b.x.y.p, 0, none⟩)) := H2.out.box.c1
  have x0 : w2.cell? ⟨Z, 0, none⟩ = some (.int .i64 r.lsn) := R2.c0
  have x1 : w2.cell? ⟨Z, 1, none⟩ = some (.int .i64 r.turn) := R2.c1
  have x2 : w2.cell? ⟨Z, 2, none⟩ = some (.int .u8 (r.kind : Int)) := R2.c2
  have x3 : w2.cell? ⟨Z, 3, none⟩ = some (.int .i64 b.t.num) := R2.c3
  have x4 : w2.cell? ⟨Z, 4, none⟩ = some (.int .i64 b.t.last) := R2.c4
  have x5 : w2.cell? ⟨Z, 5, none⟩ = some (.int .i64 r.next) := R2.c5
  have x6 : w2.cell? ⟨Z, 6, none⟩ = some (.int .i64 r.block) := R2.c6
  have x7 : w2.cell? ⟨Z, 7, none⟩ = some (.int .i64 r.off) := R2.c7
  have x8 : w2.cell? ⟨Z, 8, none⟩ = some (.slice s.a1 r.old.length s.c1) := R2.c8
  have x9 : w2.cell? ⟨Z, 9, none⟩ = some (.slice s.a2 r.new.length s.c2) := R2.c9
  have HAP : Hid (∀ w', Fr [] w w' → Calls Tryz.prog 169 #[.pointer (some ⟨b.x.y.p, 0, none⟩), .agg #[.int .i64 r.lsn, .int .i64 r.turn, .int .u8 (r.kind : Int), .int .i64 b.t.num, .int .i64 b.t.last, .int .i64 r.next, .int .i64 r.block, .int .i64 r.off, .slice s.a1 r.old.length s.c1, .slice s.a2 r.new.length s.c2]] w' fun e w'' => e = .returned (.tuple #[.int .i64 ((b.x.y.E : Int) + 1), .int .i64 0]) ∧ ∃ y', LoAt w'' y' ∧ Appd b.x.y y' N (txRec b.t r) ∧ (∀ k ∈ y'.own, k ∈ b.x.y.own ∨ w'.heap.size ≤ k) ∧ Fr b.x.y.own w' w'') := hidI (fun w' f => lo_append (HH.out.quiet f).po.lo (txRec b.t r) s ⟨(HS.out.kept f).b1, (HS.out.kept f).b2, HS.out.n1, HS.out.n2⟩ HR.out HN.out hroom hE)
  go_wp2_with fail
  go_region_law ((go_simp; go_at_call 169; refine (HAP.out _ (by first | exact F2.drew | exact F2)).mono ?_; rintro e w3 ⟨rfl, y', L3, A3, O3, f3⟩))
  all_goals
    have f23 : Fr b.x.y.own w w3 := (F2.drew.mono (fun _ _ e => nomatch e)).trans f3
    have O3' : ∀ k ∈ y'.own, k ∈ b.x.y.own ∨ w.heap.size ≤ k := fun k hk => (O3 k hk).imp id (fun h1 => Nat.le_trans F2.size h1)
    have ST := Step.appd HH.out.po L3 A3 O3' f23
    have hNN : 1 ≤ N := by
      have h1 := body_bounds HR.out
      have h3 := HN.out
      rw [encL_length] at h3
      try dsimp only at h1
      try dsimp only at h3
      omega
    have B3 := BStep.pool HH.out ST A3.d A3.p rfl HH.out.hd0 (HH.out.ls.app A3 HH.out.po.lo.hAE hNN)
    have HB3 := hidI B3
    have c3 : w3.cell? ⟨b.bp, 3, none⟩ = some (.pointer (some ⟨b.dp, 0, none⟩)) := B3.at'.box.c3
    have d3 := B3.at'.dl.c3
    have z3 := B3.at'.dl.fz 3
    have D4 := B3.at'.dl.s3 ((b.x.y.E : Int) + 1)
    clear B3 ST
    go_wp2_with fail
    go_ret
    exact ⟨rfl, y', A3, HB3.out.trans (BStep.deal HB3.out.at' D4 (fr_set _ _ _ _))⟩
end Go.Proofs.YthajipigppndgaaGreat

namespace Go.Proofs.YthajipigppndgaaGreat
open Go.RowKit Go.Maps

theorem take_pre {a b : List UInt8} {k : Nat} (h : a.length = k) : (a ++ b).take k = a := List.take_left' h
theorem drop_pre {a b : List UInt8} {k : Nat} (h : a.length = k) : (a ++ b).drop k = b := List.drop_left' h
theorem drop_more {l a b : List UInt8} {i k j : Nat} (h : l.drop i = a ++ b) (ha : a.length = k) (hj : i + k = j) : l.drop j = b := by
  rw [← hj, ← List.drop_drop, h, drop_pre ha]
theorem val_be (k n : Nat) (h : n < 256 ^ k) : valL (beK k n) = n := by rw [valL_beK, Nat.mod_eq_of_lt h]

theorem span_dec (b o : Int) (old new : List UInt8) (wo : Bool) (hb0 : 0 ≤ b) (hb1 : b < 65536) (ho0 : 0 ≤ o) (ho1 : o ≤ 512) (hn : new.length ≤ 512) (hw : old.length = if wo = true then new.length else 0) :
    spanD (beK 4 b.toNat ++ (beK 2 o.toNat ++ (beK 2 new.length ++ (old ++ new)))) wo = some (b.toNat, o.toNat, old, new) := by
  obtain ⟨l, hl⟩ : ∃ l, l = beK 4 b.toNat ++ (beK 2 o.toNat ++ (beK 2 new.length ++ (old ++ new))) := ⟨_, rfl⟩
  have d4 : l.drop 4 = beK 2 o.toNat ++ (beK 2 new.length ++ (old ++ new)) := by rw [hl]; exact drop_pre (beK_length _ _)
  have d6 := drop_more d4 (beK_length _ _) (show 4 + 2 = 6 by omega)
  have d8 := drop_more d6 (beK_length _ _) (show 6 + 2 = 8 by omega)
  have t4 : l.take 4 = beK 4 b.toNat := by rw [hl]; exact take_pre (beK_length _ _)
  have hlen : l.length = 8 + (old.length + new.length) := by rw [hl]; simp [beK_length]; omega
  have v6 : valL ((l.drop 6).take 2) = new.length := by rw [d6, take_pre (beK_length _ _), val_be 2 _ (by omega)]
  rw [← hl]
  unfold spanD
  rw [if_neg (by omega), v6, d4, d8, t4, take_pre (beK_length _ _), val_be 4 _ (by omega), val_be 2 o.toNat (by omega)]
  rw [if_neg (by rw [hlen, ← hw]; omega), ← hw, take_pre rfl, drop_pre rfl]

theorem toI_place {x : Int} (h : placeB x = true) : toI (valL (beK 8 x.toNat)) = x := by
  simp only [placeB, Bool.and_eq_true, decide_eq_true_eq] at h
  rw [val_be 8 _ (by omega), toI_small _ (by omega)]
  omega

theorem body_dec (r : Rec) (h : rightB r = true) : bodyD (bodyL r) r.lsn r.turn = some r := by
  obtain ⟨l0, l1, u0, u1, ht, hp, -⟩ := right_facts h
  have hb3 : ∀ t : List UInt8, (b3L r ++ t).take 1 = beK 1 r.kind ∧ ((b3L r ++ t).drop 1).take 8 = beK 8 r.tx.toNat ∧ ((b3L r ++ t).drop 9).take 8 = beK 8 r.prev.toNat ∧ (b3L r ++ t).drop 17 = t := by
    intro t
    have e : b3L r ++ t = beK 1 r.kind ++ (beK 8 r.tx.toNat ++ (beK 8 r.prev.toNat ++ t)) := by simp [b3L]
    have d1 : (b3L r ++ t).drop 1 = beK 8 r.tx.toNat ++ (beK 8 r.prev.toNat ++ t) := by rw [e]; exact drop_pre (beK_length _ _)
    have d9 := drop_more d1 (beK_length _ _) (show 1 + 8 = 9 by omega)
    have d17 := drop_more d9 (beK_length _ _) (show 9 + 8 = 17 by omega)
    exact ⟨by rw [e]; exact take_pre (beK_length _ _), by rw [d1]; exact take_pre (beK_length _ _), by rw [d9]; exact take_pre (beK_length _ _), d17⟩
  have hlen := bodyL_length r
  rcases right_kinds h with ⟨hk, hn, b0, b1, o0, n0, o1, on⟩ | ⟨hk, hn, b0, b1, o0, n0, o1, on⟩ | ⟨hk, hn, b0, o0, on, nn⟩
  · have e : bodyL r = b3L r ++ (beK 4 r.block.toNat ++ (beK 2 r.off.toNat ++ (beK 2 r.new.length ++ (r.old ++ r.new)))) := by
      unfold bodyL b4L
      rw [if_neg (by omega), if_neg (by omega)]
      simp
    obtain ⟨h1, h2, h3, h4⟩ := hb3 (beK 4 r.block.toNat ++ (beK 2 r.off.toNat ++ (beK 2 r.new.length ++ (r.old ++ r.new))))
    rw [if_neg (by omega), if_neg (by omega)] at hlen
    unfold bodyD
    rw [if_neg (by omega), e, h1, h2, h3, h4, val_be 1 _ (by omega), if_pos hk, span_dec _ _ _ _ true b0 b1 o0 (by omega) (by omega) (by simpa using on), toI_place ht, toI_place hp]
    obtain ⟨lsn, turn, kind, tx, prev, next, block, off, old, new⟩ := r
    dsimp only at *
    subst hk hn
    simp only [Option.map_some, Option.some.injEq, Rec.mk.injEq, true_and, and_true]
    omega
  · have e : bodyL r = b3L r ++ (beK 8 r.next.toNat ++ (beK 4 r.block.toNat ++ (beK 2 r.off.toNat ++ (beK 2 r.new.length ++ (r.old ++ r.new))))) := by
      unfold bodyL b4L
      rw [if_neg (by omega), if_pos (by omega)]
      simp
    obtain ⟨h1, h2, h3, h4⟩ := hb3 (beK 8 r.next.toNat ++ (beK 4 r.block.toNat ++ (beK 2 r.off.toNat ++ (beK 2 r.new.length ++ (r.old ++ r.new)))))
    have h5 := drop_more h4 (beK_length _ _) (show 17 + 8 = 25 by omega)
    rw [if_pos (by omega), if_neg (by omega)] at hlen
    unfold bodyD
    rw [if_neg (by omega), if_neg (by omega : ¬ (bodyL r).length < 25), e, h1, h2, h3, h5, h4, val_be 1 _ (by omega), if_neg (by omega), if_pos hk, take_pre (beK_length _ _), span_dec _ _ _ _ false b0 b1 o0 (by omega) (by omega) (by simpa using on), toI_place ht, toI_place hp, toI_place hn]
    obtain ⟨lsn, turn, kind, tx, prev, next, block, off, old, new⟩ := r
    dsimp only at *
    subst hk
    simp only [Option.map_some, Option.some.injEq, Rec.mk.injEq, true_and, and_true]
    omega
  · have e : bodyL r = b3L r ++ [] := by
      unfold bodyL b4L
      rw [if_pos (by omega), if_neg (by omega)]
      simp
    obtain ⟨h1, h2, h3, h4⟩ := hb3 []
    rw [if_neg (by omega), if_pos (by omega)] at hlen
    unfold bodyD
    rw [if_neg (by omega), if_pos (by omega : (bodyL r).length = 17), e, h1, h2, h3, val_be 1 _ (by omega), if_neg (by omega), if_neg (by omega), toI_place ht, toI_place hp]
    obtain ⟨lsn, turn, kind, tx, prev, next, block, off, old, new⟩ := r
    dsimp only at *
    have eo : old = [] := List.eq_nil_of_length_eq_zero on
    have en : new = [] := List.eq_nil_of_length_eq_zero nn
    subst hn b0 o0 eo en
    rfl

/-- What is put is got. -/
theorem dec_enc (r : Rec) (h : rightB r = true) (t : List UInt8) : decR (encL r ++ t) = some (r, (encL r).length) := by
  obtain ⟨l0, l1, u0, u1, -, -, -⟩ := right_facts h
  obtain ⟨n0, n1⟩ := body_bounds h
  obtain ⟨l, hl⟩ : ∃ l, l = encL r ++ t := ⟨_, rfl⟩
  have e0 : l = beK 8 r.lsn.toNat ++ (beK 4 r.turn.toNat ++ (beK 2 (bodyL r).length ++ (beK 4 (crc (headL r ++ bodyL r)) ++ (bodyL r ++ t)))) := by rw [hl]; simp [encL, headL]
  have e14 : l = headL r ++ (beK 4 (crc (headL r ++ bodyL r)) ++ (bodyL r ++ t)) := by rw [hl]; simp [encL]
  have d8 : l.drop 8 = beK 4 r.turn.toNat ++ (beK 2 (bodyL r).length ++ (beK 4 (crc (headL r ++ bodyL r)) ++ (bodyL r ++ t))) := by rw [e0]; exact drop_pre (beK_length _ _)
  have d12 := drop_more d8 (beK_length _ _) (show 8 + 4 = 12 by omega)
  have d14 := drop_more d12 (beK_length _ _) (show 12 + 2 = 14 by omega)
  have d18 := drop_more d14 (beK_length _ _) (show 14 + 4 = 18 by omega)
  have t8 : l.take 8 = beK 8 r.lsn.toNat := by rw [e0]; exact take_pre (beK_length _ _)
  have t14 : l.take 14 = headL r := by rw [e14]; exact take_pre (headL_length r)
  have hlen : l.length = 18 + (bodyL r).length + t.length := by rw [hl, List.length_append, encL_length]
  have v12 : valL ((l.drop 12).take 2) = (bodyL r).length := by rw [d12, take_pre (beK_length _ _), val_be 2 _ (by omega)]
  have v14 : valL ((l.drop 14).take 4) = crc (headL r ++ bodyL r) := by rw [d14, take_pre (beK_length _ _), val_be 4 _ (by have := crc_lt (headL r ++ bodyL r); omega)]
  have v8 : (valL ((l.drop 8).take 4) : Int) = r.turn := by rw [d8, take_pre (beK_length _ _), val_be 4 _ (by omega)]; omega
  have v0 : toI (valL (l.take 8)) = r.lsn := by rw [t8, val_be 8 _ (by omega), toI_small _ (by omega)]; omega
  rw [← hl]
  unfold decR
  rw [if_neg (by omega), v12, if_neg (by omega), v14, t14, d18, take_pre rfl, if_neg (fun h => h rfl), v0, v8, body_dec r h, encL_length]
  show (if rightB r = true then _ else _) = _
  rw [if_pos h]

/-! ### what is got was put -/
end Go.Proofs.YthajipigppndgaaGreat

namespace Go.Proofs.YthajipigppndgaaGreat
open Go.RowKit Go.Maps

/-- A step of a log. -/
structure LStep (w w' : World) (y y' : Lo) : Prop where
  at' : LoAt w' y'
  fr : Fr y.own w w'
  ow : ∀ k ∈ y'.own, k ∈ y.own ∨ w.heap.size ≤ k
theorem LStep.trans {w w1 w2 : World} {y y1 y2 : Lo} (h : LStep w w1 y y1) (k : LStep w1 w2 y1 y2) : LStep w w2 y y2 :=
  ⟨k.at', h.fr.then k.fr (fun i hi hm => (h.ow i hm).resolve_right (by omega)), fun i hi => (k.ow i hi).elim (fun h1 => h.ow i h1) (fun h1 => Or.inr (Nat.le_trans h.fr.size h1))⟩
theorem LStep.quiet {w w' : World} {y : Lo} (h : LoAt w y) (f : Fr [] w w') : LStep w w' y y := ⟨h.kept f (by simp), f.mono (fun _ _ e => nomatch e), fun k hk => Or.inl hk⟩
end Go.Proofs.YthajipigppndgaaGreat

namespace Go.Proofs.YthajipigppndgaaGreat
open Go.RowKit Go.Maps

end Go.Proofs.YthajipigppndgaaGreat

namespace Go.Proofs.YthajipigppndgaaGreat
open Go.RowKit Go.Maps

/-- A page is what its frame has, or, if it is in none, what the device has. -/
def Val (x : Po) (q : Nat) (l : List UInt8) : Prop := (∃ f ∈ x.fs, f.pg = q ∧ f.l = l) ∨ (q ∉ (ids x.fs).map (·.1) ∧ pgD x.start x.y q = l)
theorem mem_ids {fs : List Fm} {f : Fm} (h : f ∈ fs) : f.pg ∈ (ids fs).map (·.1) := List.mem_map.2 ⟨(f.pg, f.b), List.mem_map.2 ⟨f, h, rfl⟩, rfl⟩
theorem ids_mem {fs : List Fm} {q : Nat} (h : q ∈ (ids fs).map (·.1)) : ∃ f ∈ fs, f.pg = q := by
  obtain ⟨j, f, hj, hq⟩ := pg_in h
  exact ⟨f, List.mem_of_getElem? hj, hq⟩
theorem ids_pg (fs : List Fm) : (ids fs).map (·.1) = fs.map (·.pg) := by
  unfold ids
  rw [List.map_map]
  rfl
theorem pg_uniq {fs : List Fm} (hn : ((ids fs).map (·.1)).Nodup) {i j : Nat} {f g : Fm} (hi : fs[i]? = some f) (hj : fs[j]? = some g) (he : f.pg = g.pg) : i = j := by
  rw [ids_pg] at hn
  have h1 : (fs.map (·.pg))[i]? = some f.pg := by rw [List.getElem?_map, hi]; rfl
  have h2 : (fs.map (·.pg))[j]? = some f.pg := by rw [List.getElem?_map, hj, he]; rfl
  obtain ⟨hl1, e1⟩ := List.getElem?_eq_some_iff.1 h1
  obtain ⟨hl2, e2⟩ := List.getElem?_eq_some_iff.1 h2
  have hp := List.pairwise_iff_getElem.1 hn
  rcases Nat.lt_trichotomy i j with h | h | h
  · exact absurd (e1.trans e2.symm) (hp i j hl1 hl2 h)
  · exact h
  · exact absurd (e2.trans e1.symm) (hp j i hl2 hl1 h)
theorem Val.uniq {x : Po} (hn : ((ids x.fs).map (·.1)).Nodup) {q : Nat} {l l' : List UInt8} (h : Val x q l) (h' : Val x q l') : l = l' := by
  rcases h with ⟨f, hf, rfl, rfl⟩ | ⟨hq, rfl⟩ <;> rcases h' with ⟨g, hg, he, rfl⟩ | ⟨hq', rfl⟩
  · obtain ⟨i, hi⟩ := List.mem_iff_getElem?.1 hf
    obtain ⟨j, hj⟩ := List.mem_iff_getElem?.1 hg
    have := pg_uniq hn hi hj he.symm
    subst this
    rw [hi] at hj
    cases hj
    rfl
  · exact absurd (mem_ids hf) hq'
  · exact absurd (he ▸ mem_ids hg) hq
  · rfl
theorem Val.ex (x : Po) (q : Nat) : ∃ l, Val x q l := by
  by_cases h : q ∈ (ids x.fs).map (·.1)
  · obtain ⟨f, hf, hq⟩ := ids_mem h
    exact ⟨_, Or.inl ⟨f, hf, hq, rfl⟩⟩
  · exact ⟨_, Or.inr ⟨h, rfl⟩⟩
theorem Val.len {w : World} {x : Po} (h : PoAt w x) {q : Nat} {l : List UInt8} (hv : Val x q l) : l.length = 512 := by
  rcases hv with ⟨f, hf, _, rfl⟩ | ⟨_, rfl⟩
  · exact (h.rn.frames f hf).len
  · exact latest_len h.lo.dev _
/-- All pages of one pool are as those of another one. -/
def Alike (x x' : Po) : Prop := x'.start = x.start ∧ x'.pages = x.pages ∧ x'.most = x.most ∧ x'.pp = x.pp ∧ x'.mp = x.mp ∧ x'.rp = x.rp ∧ ∀ q, q < x.pages → ∀ l, Val x q l → Val x' q l
theorem Alike.refl (x : Po) : Alike x x := ⟨rfl, rfl, rfl, rfl, rfl, rfl, fun _ _ _ h => h⟩
theorem Alike.trans {x y z : Po} (h : Alike x y) (k : Alike y z) : Alike x z := ⟨k.1.trans h.1, k.2.1.trans h.2.1, k.2.2.1.trans h.2.2.1, k.2.2.2.1.trans h.2.2.2.1, k.2.2.2.2.1.trans h.2.2.2.2.1, k.2.2.2.2.2.1.trans h.2.2.2.2.2.1, fun q hq l hl => k.2.2.2.2.2.2 q (by rw [h.2.1]; exact hq) l (h.2.2.2.2.2.2 q hq l hl)⟩
theorem val_set {x : Po} {fs' : List Fm} (hp : fs'.map (·.pg) = x.fs.map (·.pg)) (hl : ∀ (i : Nat) (f : Fm), x.fs[i]? = some f → ∃ g : Fm, fs'[i]? = some g ∧ g.pg = f.pg ∧ g.l = f.l) {q : Nat} {l : List UInt8} (h : Val x q l) : Val { x with fs := fs' } q l := by
  rcases h with ⟨f, hf, rfl, rfl⟩ | ⟨hq, rfl⟩
  · obtain ⟨i, hi⟩ := List.mem_iff_getElem?.1 hf
    obtain ⟨g, hg, h1, h2⟩ := hl i f hi
    exact Or.inl ⟨g, List.mem_of_getElem? hg, h1, h2⟩
  · refine Or.inr ⟨?_, rfl⟩
    show q ∉ (ids fs').map (·.1)
    rw [ids_pg, hp, ← ids_pg]
    exact hq
theorem Fnd.alike {x x' : Po} {page : Nat} {f : Fm} (h : Fnd x x' page f) (hn : ((ids x.fs).map (·.1)).Nodup) : Alike x x' ∧ Val x page f.l ∧ f.pg = page := by
  rcases h with ⟨j, f0, hj, rfl, rfl, rfl⟩ | ⟨hno, hm, hf⟩
  · refine ⟨⟨rfl, rfl, rfl, rfl, rfl, rfl, fun q _ l hl => val_set (fs' := x.fs.set j { f0 with ask := true }) ?_ ?_ hl⟩, Or.inl ⟨f0, List.mem_of_getElem? hj, rfl, rfl⟩, rfl⟩
    · rw [← ids_pg, ids_set (f' := { f0 with ask := true }) hj rfl rfl, ids_pg]
    · intro i g hi
      by_cases e : i = j
      · subst e
        rw [hj] at hi
        cases hi
        exact ⟨_, List.getElem?_set_self (List.getElem?_eq_some_iff.1 hj).1, rfl, rfl⟩
      · exact ⟨g, by rw [List.getElem?_set_ne (fun h => e h.symm)]; exact hi, rfl, rfl⟩
  · rcases hm with ⟨_, a, c, rfl⟩ | ⟨_, y', k, j, f1, _, _, hf1, _, rfl, hk, hpq, hpf, _⟩
    · refine ⟨⟨rfl, rfl, rfl, rfl, rfl, rfl, fun q _ l hl => ?_⟩, Or.inr ⟨hno, by rw [hf]; rfl⟩, by rw [hf]; rfl⟩
      rcases hl with ⟨g, hg, h1, h2⟩ | ⟨hq, h2⟩
      · exact Or.inl ⟨g, List.mem_append_left _ hg, h1, h2⟩
      · by_cases e : q = page
        · subst e
          exact Or.inl ⟨_, List.mem_append_right _ (List.mem_singleton.2 rfl), rfl, h2⟩
        · refine Or.inr ⟨?_, h2⟩
          show q ∉ (ids (x.fs ++ [newF f.b page (pgD x.start x.y page)])).map (·.1)
          rw [ids_pg, List.map_append, List.mem_append, ← ids_pg]
          rintro (h | h)
          · exact hq h
          · simp [newF] at h
            exact e h
    · refine ⟨⟨rfl, rfl, rfl, rfl, rfl, rfl, fun q hqp l hl => ?_⟩, Or.inr ⟨hno, by rw [hf]; rfl⟩, by rw [hf]; rfl⟩
      have hlt : j < x.fs.length := (List.getElem?_eq_some_iff.1 hf1).1
      have hids : ids (turnS k (x.fs.set j { f1 with fst := 0 }, x.hand)).1 = ids x.fs := (turnS_ids _ _).trans (ids_set (f' := { f1 with fst := 0 }) hf1 rfl rfl)
      have hpgs : (ids (x.swapped y' k j f1 (newF f.b page (pgD x.start x.y page))).fs).map (·.1) = ((ids x.fs).map (·.1)).set j page := by
        show (ids ((turnS k (x.fs.set j { f1 with fst := 0 }, x.hand)).1.set j (newF f.b page (pgD x.start x.y page)))).map (·.1) = _
        rw [ids_pg, List.map_set, ← ids_pg, hids]
        rfl
      have hat : ∀ (i : Nat) (g : Fm), i ≠ j → x.fs[i]? = some g → ∃ g' : Fm, (x.swapped y' k j f1 (newF f.b page (pgD x.start x.y page))).fs[i]? = some g' ∧ g'.pg = g.pg ∧ g'.l = g.l := by
        intro i g hij hg
        have hil : i < (turnS k (x.fs.set j { f1 with fst := 0 }, x.hand)).1.length := by rw [turnS_len, List.length_set]; exact (List.getElem?_eq_some_iff.1 hg).1
        obtain ⟨g', h1, h2⟩ := turnS_at k (x.fs.set j { f1 with fst := 0 }, x.hand) i _ (List.getElem?_eq_getElem hil)
        have h3 : (x.fs.set j { f1 with fst := 0 })[i]? = some g := by rw [List.getElem?_set_ne (fun h => hij h.symm)]; exact hg
        rw [h3] at h1
        cases h1
        refine ⟨(turnS k (x.fs.set j { f1 with fst := 0 }, x.hand)).1[i], ?_, ?_⟩
        · show ((turnS k (x.fs.set j { f1 with fst := 0 }, x.hand)).1.set j _)[i]? = _
          rw [List.getElem?_set_ne (fun h => hij h.symm)]
          exact List.getElem?_eq_getElem hil
        · rcases h2 with h2 | h2 <;> rw [h2] <;> exact ⟨rfl, rfl⟩
      have hnj : (x.swapped y' k j f1 (newF f.b page (pgD x.start x.y page))).fs[j]? = some (newF f.b page (pgD x.start x.y page)) := by
        show ((turnS k (x.fs.set j { f1 with fst := 0 }, x.hand)).1.set j _)[j]? = _
        rw [List.getElem?_set_self]
        rw [turnS_len, List.length_set]
        exact hlt
      rcases hl with ⟨g, hg, h1, h2⟩ | ⟨hq, h2⟩
      · obtain ⟨i, hi⟩ := List.mem_iff_getElem?.1 hg
        by_cases e : i = j
        · subst e
          rw [hf1] at hi
          cases hi
          refine Or.inr ⟨?_, ?_⟩
          · rw [hpgs]
            intro hc
            have hmem := List.mem_iff_getElem?.1 hc
            obtain ⟨i', hi'⟩ := hmem
            by_cases e' : i' = i
            · subst e'
              rw [List.getElem?_set_self (by rw [ids_pg, List.length_map]; exact hlt)] at hi'
              cases hi'
              exact hno (h1 ▸ mem_ids hg)
            · rw [List.getElem?_set_ne (fun h => e' h.symm), ids_pg, List.getElem?_map] at hi'
              cases hg' : x.fs[i']? with
              | none => rw [hg'] at hi'; cases hi'
              | some g' =>
                rw [hg'] at hi'
                have : g'.pg = q := by simpa using hi'
                exact e' (pg_uniq hn hg' hf1 (this.trans h1.symm))
          · show pgD x.start y' q = l
            rw [← h1, hpf, h2]
        · obtain ⟨g', hg', h3, h4⟩ := hat i g e hi
          exact Or.inl ⟨g', List.mem_of_getElem? hg', h3.trans h1, h4.trans h2⟩
      · by_cases e : q = page
        · subst e
          exact Or.inl ⟨_, List.mem_of_getElem? hnj, rfl, h2⟩
        · refine Or.inr ⟨?_, ?_⟩
          · rw [hpgs]
            intro hc
            rcases List.mem_or_eq_of_mem_set hc with h | h
            · exact hq h
            · exact e h
          · show pgD x.start y' q = l
            rw [hpq q hqp (fun h => hq (h ▸ mem_ids (List.mem_of_getElem? hf1))), h2]
/-- How many frames there are. -/
theorem Fnd.length {x x' : Po} {page : Nat} {f : Fm} (h : Fnd x x' page f) : (x'.fs.length = x.fs.length ∧ (page ∈ (ids x.fs).map (·.1) ∨ x.fs.length = x.most)) ∨ (x.fs.length < x.most ∧ x'.fs.length = x.fs.length + 1 ∧ page ∉ (ids x.fs).map (·.1)) := by
  rcases h with ⟨j, f0, hj, rfl, rfl, rfl⟩ | ⟨hno, hm, hf⟩
  · exact Or.inl ⟨List.length_set, Or.inl (mem_ids (List.mem_of_getElem? hj))⟩
  · rcases hm with ⟨h1, a, c, rfl⟩ | ⟨h1, y', k, j, f1, _, _, hf1, _, rfl, hk, hpq, hpf, _⟩
    · exact Or.inr ⟨h1, by show (x.fs ++ [_]).length = _; rw [List.length_append]; rfl, hno⟩
    · refine Or.inl ⟨?_, Or.inr h1⟩
      show ((turnS k (x.fs.set j { f1 with fst := 0 }, x.hand)).1.set j _).length = _
      rw [List.length_set, turnS_len, List.length_set]
theorem Fnd.kin {x x' : Po} {page : Nat} {f : Fm} (h : Fnd x x' page f) : Kin x.y x'.y := by
  rcases h with ⟨j, f0, hj, rfl, rfl, rfl⟩ | ⟨hno, hm, hf⟩
  · exact Kin.refl _
  · rcases hm with ⟨h1, a, c, rfl⟩ | ⟨h1, y', k, j, f1, _, _, hf1, _, rfl, hk, hpq, hpf, _⟩
    · exact Kin.refl _
    · exact hk
end Go.Proofs.YthajipigppndgaaGreat


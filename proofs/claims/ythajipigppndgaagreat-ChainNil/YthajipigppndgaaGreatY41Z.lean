/-
  A chain's value, got.
-/
import Derived.Test.YthajipigppndgaaGreatY40Z
import Derived.Deep.AppendLies
namespace Go.Proofs.YthajipigppndgaaGreat
open Go.RowKit Go.Maps Go.Lib Go.Shelf
attribute [local go_sem] Oper.semAt_some
theorem BkAt.awayT {w : World} {b : Bk} (h : BkAt w b) {g : Nat} {cur : Array Value} {t : TypeId} (hg : w.heap[g]? = some (.cells cur t)) (h3 : t ≠ 140) (h4 : t ≠ 38) : b.bp ≠ g ∧ b.x.pp ≠ g := by
  refine ⟨fun e => ?_, fun e => ?_⟩
  · have h6 := h.box
    unfold BBox at h6
    rw [e, hg] at h6
    cases h6
    exact h4 rfl
  · have h6 := h.po.box
    unfold PBox' at h6
    rw [e, hg] at h6
    cases h6
    exact h3 rfl
theorem RdK.putT {w0 W W' : World} {bp : Nat} {b0 : Bk} {K : KL} {g : Nat} {cs cs' : Array Value} {t : TypeId} (h : RdK w0 bp b0 ((g, .cells cs t) :: K) W) (hB : w0.heap.size ≤ g) (hK : ∀ p ∈ K, p.1 ≠ g) (f : Fr [g] W W') (hz : W'.heap[g]? = some (.cells cs' t))
    (h3 : t ≠ 140) (h4 : t ≠ 38) : RdK w0 bp b0 ((g, .cells cs' t) :: K) W' := by
  obtain ⟨b, r⟩ := h
  have k := r.ab.kp _ (List.mem_cons_self ..)
  have aw := r.ab.bk.awayT k.1 h3 h4
  have a2 := (r.ab.less (K' := K) (fun p hp => List.mem_cons_of_mem _ hp)).put f aw.1 k.2 aw.2 hB hK
  exact ⟨b, r.on (a2.add hz k.2)⟩
theorem RdK.newF {w0 W W' : World} {bp : Nat} {b0 : Bk} {K : KL} (h : RdK w0 bp b0 K W) (f : Fr [] W W') {g : Nat} {o : Obj} (hg : W.heap.size ≤ g) (ho : W'.heap[g]? = some o) : RdK w0 bp b0 ((g, o) :: K) W' := by
  obtain ⟨b, r⟩ := h
  exact ⟨b, (r.quiet f).on ((r.ab.quiet f).add ho (r.ab.fresh hg).2.1)⟩
def RowK (base : Nat) (e : TypeId) (v : Value) (xs : List Value) (K : KL) : Prop := (v = .slice none 0 0 ∧ xs = [] ∧ K = []) ∨ ∃ g cap cur, v = .slice (some ⟨g, 0, none⟩) xs.length cap ∧ base ≤ g ∧ K = [(g, .cells cur e)] ∧ xs.length ≤ cap ∧ cap ≤ maxLen ∧ cur.size = cap ∧ cur.toList.take xs.length = xs
theorem fr_grown {W W' : World} {row : Option Nat} {L : List Nat} (h : W.grownBy W' row) (hL : ∀ g, row = some g → g ∈ L) : Fr L W W' := (Fr.refl L W).grown h (fun j e _ => hL j e)
theorem appK_run {w0 W : World} {bp : Nat} {b0 : Bk} {KR KO : KL} {t ty e : TypeId} {i : TypeInfo} {z : Value} {bytes : Nat} (ht : Tryz.prog.underlying t = some (.slice e)) (hi : Tryz.prog.info? e = some i) (hz : i.zero = some z) (hsize : i.size = 1) (hby : i.bytes = bytes) (hzs : z.cells.size = 1)
    (h3 : e ≠ 140) (h4 : e ≠ 38) {v : Value} {xs : List Value} (hrow : RowK w0.heap.size e v xs KR) (hs : RdK w0 bp b0 (KR ++ KO) W) (dj : Dj KR KO) (ad : Addr) (c : Nat) (news : List Value) (hnews : ∀ j u, news[j]? = some u → W.cell? (ad.add j) = some u) (h1 : ∀ u ∈ news, u.oneCell' = true) (hm : 0 < news.length) (hb : xs.length + news.length ≤ 16777216) (hby8 : bytes ≤ 64) :
    ∃ g cap w' KR', (Builtin.append_ #[t, t] ty #[v, .slice (some ad) news.length c]).run Tryz.prog W = .ok (.slice (some ⟨g, 0, none⟩) (xs.length + news.length) cap) w' ∧ RowK w0.heap.size e (.slice (some ⟨g, 0, none⟩) (xs.length + news.length) cap) (xs ++ news) KR' ∧ RdK w0 bp b0 (KR' ++ KO) w' ∧ Dj KR' KO := by
  have hown : W.ownsRow w0.heap.size e 1 v xs.length xs := by
    refine ⟨by simp, ?_⟩
    rcases hrow with ⟨rfl, rfl, _⟩ | ⟨g, cap, cur, rfl, hg, rfl, h5, h6, h7, h8⟩
    · exact .inl ⟨rfl, rfl⟩
    · exact .inr ⟨g, cap, cur, rfl, hg, hs.lies (g, .cells cur e) (by simp), h5, h6, by omega, by rw [Nat.mul_one]; exact h8⟩
  have hbase := (rd_keeper w0 bp b0).size hs
  have hlt : ∀ p ∈ KR ++ KO, p.1 < W.heap.size := fun p hp => (Array.getElem?_eq_some_iff.1 (hs.lies p hp)).1
  obtain ⟨g, cap, w', hr, ho, hgr, hor, _⟩ := run_append_lies (P := Tryz.prog) W t ty w0.heap.size e i z 1 bytes ht hi hz hsize hby hzs (by omega) v xs.length xs hown ad news.length c news (by simp) hnews h1 hm (by unfold maxLen; omega) (by
    have : (xs.length + news.length) * bytes ≤ 16777216 * 64 := Nat.mul_le_mul hb hby8
    omega) hbase _ rfl
  have hrow' : ∃ cur, w'.heap[g]? = some (.cells cur e) ∧ w0.heap.size ≤ g ∧ RowK w0.heap.size e (.slice (some ⟨g, 0, none⟩) (xs.length + news.length) cap) (xs ++ news) [(g, .cells cur e)] := by
    rcases ho.2 with ⟨hv, _⟩ | ⟨g2, cap2, cur, hv, q1, q2, q3, q4, q5, q6⟩
    · cases hv
    · cases hv
      refine ⟨cur, q2, q1, .inr ⟨g, cap, cur, by simp, q1, rfl, by simpa using q3, q4, by omega, ?_⟩⟩
      rw [List.length_append]
      rw [Nat.mul_one] at q6
      exact q6
  obtain ⟨cur, hg', hgb, hR⟩ := hrow'
  refine ⟨g, cap, w', _, hr, hR, ?_⟩
  rcases hor with hor | hor
  · rcases hrow with ⟨rfl, _, _⟩ | ⟨g2, cap2, cur2, rfl, hg, rfl, h5, h6, h7, h8⟩
    · cases hor
    · obtain rfl : g2 = g := by simpa [Value.ownBlock] using hor
      have hdj : Dj [(g2, Obj.cells cur e)] KO := fun p hp q hq => by
        rw [List.mem_singleton.1 hp]
        exact dj (g2, .cells cur2 e) (by simp) q hq
      exact ⟨RdK.putT hs hg (fun p hp => fun e2 => dj (g2, .cells cur2 e) (by simp) p hp e2.symm) (fr_grown hgr (fun x hx => by cases hx; simp)) hg' h3 h4, hdj⟩
  · have hdj : Dj [(g, Obj.cells cur e)] KO := fun p hp q hq => by
      rw [List.mem_singleton.1 hp]
      have := hlt q (by simp [hq])
      show g ≠ q.1
      omega
    refine ⟨?_, hdj⟩
    rcases hrow with ⟨rfl, rfl, rfl⟩ | ⟨g2, cap2, cur2, rfl, hg, rfl, h5, h6, h7, h8⟩
    · exact hs.newF (fr_grown hgr (fun x hx => nomatch hx)) (by omega) hg'
    · obtain ⟨b, r⟩ := hs
      have k := r.ab.kp (g2, .cells cur2 e) (by simp)
      have aw := r.ab.bk.awayT k.1 h3 h4
      have f := fr_grown (L := [g2]) hgr (fun x hx => by cases hx; simp)
      have a2 := (r.ab.less (K' := KO) (fun p hp => List.mem_append.2 (.inr hp))).put f aw.1 k.2 aw.2 hg (fun p hp => fun e2 => dj (g2, .cells cur2 e) (by simp) p hp e2.symm)
      exact ⟨b, r.on (a2.add hg' (r.ab.fresh (by omega)).2.1)⟩
section
variable {F : Fence} {n : Nat} {ops : Array Oper} {rest : List Oper} {o : Oper} {a : Act} {W : World} {Q : Exit → Act → World → Prop}
theorem wpIn_appK (hgd : o.guard = none) {w0 : World} {bp : Nat} {b0 : Bk} {KR KO : KL} {t e : TypeId} {i : TypeInfo} {z : Value} {bytes : Nat} (s y : Operand) (hop : o.op = .call { callee := .builtin .append, args := #[s, y], argTypes := #[t, t] }) (ht : Tryz.prog.underlying t = some (.slice e)) (hi : Tryz.prog.info? e = some i) (hz : i.zero = some z) (hsize : i.size = 1) (hby : i.bytes = bytes) (hzs : z.cells.size = 1)
    (h3 : e ≠ 140) (h4 : e ≠ 38) {v : Value} {xs : List Value} (hrow : RowK w0.heap.size e v xs KR) (hs : RdK w0 bp b0 (KR ++ KO) W) (dj : Dj KR KO) (ad : Addr) (m c : Nat) (news : List Value) (hv : a.eval s = v) (hy : a.eval y = .slice (some ad) m c) (hmn : news.length = m) (hnews : ∀ j u, news[j]? = some u → W.cell? (ad.add j) = some u) (h1 : ∀ u ∈ news, u.oneCell' = true) (hm : 0 < news.length) (hb : xs.length + news.length ≤ 16777216) (hby8 : bytes ≤ 64)
    (h : ∀ g cap w' KR', RowK w0.heap.size e (.slice (some ⟨g, 0, none⟩) (xs.length + m) cap) (xs ++ news) KR' → RdK w0 bp b0 (KR' ++ KO) w' → Dj KR' KO → wpListIn F n Tryz.prog ops Q rest (a.put o.dst (.slice (some ⟨g, 0, none⟩) (xs.length + m) cap)) w') : wpListIn F n Tryz.prog ops Q (o :: rest) a W := by
  subst hmn
  refine wpListIn_plain hgd fun K hK => ?_
  obtain ⟨g, cap, w', KR', hrun, q1, q2, q3⟩ := appK_run (ty := o.type) ht hi hz hsize hby hzs h3 h4 hrow hs dj ad c news hnews h1 hm hb hby8
  unfold Oper.wpIn
  refine ⟨?_, ?_⟩
  · simp [Oper.about, hop, resolve, Target.leads, Sem.run_pure]
  · rw [Oper.semAt_plain F _ _ (by rw [hop]; intro c hc'; cases hc')]
    simp [execOp, hop, resolve, invoke, builtin, hv, hy, hrun, Result.andThen]
    exact hK _ _ (h g cap w' KR' q1 q2 q3)
end
def ChW (n : Nat) (V : Pages) (first : Int) (l : List Nat) (t : Bool) : Prop := (first = 0 ∧ l = [] ∧ t = true) ∨ (first ≠ 0 ∧ Wk n V first 64 none l t)
def kiOf (bp : Nat) (first : Int) (bF bB : Nat) : KL := [(bF, .cells #[.int .i64 first] 3), (bB, .cells #[.pointer (some ⟨bp, 0, none⟩)] 32)]
set_option maxRecDepth 100000 in
set_option maxHeartbeats 4000000 in
theorem nlinks_iter (n : Nat) (hn : 1 ≤ n) {w0 : World} {bp : Nat} {b0 : Bk} {V : Pages} (hv : Shows b0.x V) (hp3 : 3 ≤ b0.x.pages) (hp : b0.x.pages ≤ 1000000) (hd : IsHd b0.x.pages (V 0)) (bF bB : Nat) (first : Int) {l : List Nat} {t : Bool} (hw : ChW b0.x.pages V first l t) :
    IterK Fence.wide n Tryz.prog 90 #[.pointer (some ⟨bF, 0, none⟩), .pointer (some ⟨bB, 0, none⟩)] (encT V) (RdK w0 bp b0) (XT b0.x.pages V) (STold l t) (SpTold l t) (kiOf bp first bF bB) := by
  intro lp JP JX W K hs dj h0 hY
  rcases hw with ⟨rfl, rfl, rfl⟩ | ⟨hf, hw⟩
  · have cF : W.cell? ⟨bF, 0, none⟩ = some (.int .i64 0) := hs.cell (t := 3) (by simp [kiOf])
    have HS := hidI hs
    clear hs hY
    refine callsIn_of_wp Tryz.func90 rfl trivial ?_ rfl
    simp only [Tryz.ntmps90, List.size_toArray, List.length_cons, List.length_nil, Nat.reduceAdd, Nat.reduceSub, Array.replicate_succ, Array.replicate_zero, List.push_toArray, List.append_toArray, List.nil_append, List.cons_append]
    gi_wp2
    refine bodyPost_ret (results_none rfl _ _ _) rfl ?_
    exact ⟨⟨_, rfl⟩, .inl ⟨[], K, rfl, h0, HS.out, dj⟩⟩
  · exact nlinks1_in n hn hv hp3 hp hd bF bB first hf hw _ rfl lp JP JX W K hs dj h0 hY
set_option maxRecDepth 100000 in
theorem nlinks_mk (w : World) (bp : Nat) (first : Int) :
    Calls Tryz.prog 40 #[.pointer (some ⟨bp, 0, none⟩), .int .i64 first] w fun e w' => e = .returned (.func (.func 90) #[] #[.pointer (some ⟨w.heap.size + 1, 0, none⟩), .pointer (some ⟨w.heap.size, 0, none⟩)]) ∧ w'.heap[w.heap.size + 1]? = some (.cells #[.int .i64 first] 3) ∧ w'.heap[w.heap.size]? = some (.cells #[.pointer (some ⟨bp, 0, none⟩)] 32) ∧ Fr [] w w' := by
  have f1 := ((Fr.refl [] w).alloc (.cells #[.pointer (some ⟨bp, 0, none⟩)] 32)).alloc (.cells #[.int .i64 first] 3)
  have z1 := heap_alloc_new w (.cells #[.pointer (some ⟨bp, 0, none⟩)] 32)
  have z2 := heap_alloc_new (w.alloc (.cells #[.pointer (some ⟨bp, 0, none⟩)] 32)) (.cells #[.int .i64 first] 3)
  have z3 := ((Fr.refl [] (w.alloc (.cells #[.pointer (some ⟨bp, 0, none⟩)] 32))).alloc (.cells #[.int .i64 first] 3)).same (by simp) z1
  rw [World.size_alloc] at z2
  have HZ := hidI (And.intro z2 (And.intro z3 f1))
  clear f1 z1 z2 z3
  go_enter Tryz.func40, Tryz.ntmps40
  go_wp2_with fail
  go_ret
  exact ⟨rfl, HZ.out⟩
end Go.Proofs.YthajipigppndgaaGreat

namespace Go.Proofs.YthajipigppndgaaGreat
open Go.RowKit Go.Maps Go.Lib Go.Shelf
attribute [local go_sem] Oper.semAt_some
def valT (V : Pages) (xs : List Tl) : List UInt8 := xs.flatMap fun x => match x with
  | some (q, _) => (cellOf (V q)).drop 2
  | none => []
theorem valT_snoc (V : Pages) (xs : List Tl) (q pb : Nat) : valT V (xs ++ [some (q, pb)]) = valT V xs ++ (cellOf (V q)).drop 2 := by simp [valT]
theorem valT_some (V : Pages) : ∀ (xs : List Tl) (l : List Nat), pgs xs = l.map some → valT V xs = valOf V l
  | [], [], _ => rfl
  | [], q :: l, h => by simp [pgs] at h
  | x :: xs, [], h => by simp [pgs] at h
  | x :: xs, q :: l, h => by
    simp only [pgs, List.map_cons, List.cons.injEq] at h
    have ih := valT_some V xs l h.2
    cases x with
    | none => simp at h
    | some p =>
      obtain ⟨q2, pb⟩ := p
      simp at h
      unfold valT valOf at ih ⊢
      simp only [List.flatMap_cons, ih, h.1]
theorem told_none {l : List Nat} {t : Bool} {xs : List Tl} (h : SpTold l t (xs ++ [none])) : t = false := by
  unfold SpTold told at h
  rw [pgs_snoc] at h
  cases t with
  | false => rfl
  | true =>
    have h1 : (none : Option Nat) ∈ l.map some ++ (if true = true then [] else [none]) := h.subset (by simp)
    simp at h1
theorem told_done {l : List Nat} {t : Bool} {xs : List Tl} (h : STold l t xs) (hn : ∀ x ∈ xs, x ≠ none) : t = true := by
  unfold STold told at h
  cases t with
  | true => rfl
  | false =>
    have h1 : (none : Option Nat) ∈ pgs xs := by rw [h]; simp
    unfold pgs at h1
    obtain ⟨x, hx, hx2⟩ := List.mem_map.1 h1
    cases x with
    | none => exact absurd rfl (hn _ hx)
    | some p => cases hx2
theorem told_len {V : Pages} {l : List Nat} {t : Bool} {xs : List Tl} (h : SpTold l t xs) : (valT V xs).length ≤ (valOf V l).length := by
  have key : ∀ (xs : List Tl) (l : List Nat), pgs xs <+: l.map some ++ (if t then [] else [none]) → (valT V xs).length ≤ (valOf V l).length := by
    intro xs
    induction xs with
    | nil => intro l _; simp [valT]
    | cons x xs ih =>
      intro l hl
      cases l with
      | nil =>
        have : ∀ y ∈ x :: xs, y = none := fun y hy => by
          have h1 : y.map Prod.fst ∈ ([] : List Nat).map some ++ (if t then [] else [none]) := hl.subset (List.mem_map_of_mem hy)
          cases t <;> simp at h1
          exact h1
        have hv : valT V (x :: xs) = [] := by
          unfold valT
          rw [List.flatMap_eq_nil_iff]
          intro y hy
          rw [this y hy]
        rw [hv]
        simp
      | cons q l =>
        simp only [pgs, List.map_cons, List.cons_append, List.cons_prefix_cons] at hl
        have := ih l hl.2
        cases x with
        | none => simp at hl
        | some p =>
          obtain ⟨q2, pb⟩ := p
          simp at hl
          unfold valT valOf at this ⊢
          simp only [List.flatMap_cons, List.length_append, hl.1]
          omega
  exact key xs l h
theorem xt_mono (n : Nat) (V : Pages) (x : Tl) (K K' : KL) (h : ∀ p ∈ K, p ∈ K') (hx : XT n V x K) : XT n V x K' := by
  cases x with
  | none => trivial
  | some p =>
    obtain ⟨q, pb⟩ := p
    exact ⟨h _ hx.1, hx.2⟩
theorem encT_size (V : Pages) (x : Tl) : (encT V x).size = 2 := by
  cases x with
  | none => rfl
  | some p => obtain ⟨q, pb⟩ := p; rfl
theorem RowK.form {base : Nat} {e : TypeId} {v : Value} {xs : List Value} {K : KL} (h : RowK base e v xs K) : ∃ a n c, v = .slice a n c := by
  rcases h with ⟨rfl, -⟩ | ⟨g, cap, cur, rfl, -⟩
  · exact ⟨_, _, _, rfl⟩
  · exact ⟨_, _, _, rfl⟩
theorem RdK.setK {w0 W : World} {bp : Nat} {b0 : Bk} {R : KL} {g : Nat} {v : Value} {t : TypeId} (v' : Value) (h : RdK w0 bp b0 ((g, .cells #[v] t) :: R) W) (hB : w0.heap.size ≤ g) (hR : ∀ p ∈ R, p.1 ≠ g) (h3 : t ≠ 140) (h4 : t ≠ 38) : RdK w0 bp b0 ((g, .cells #[v'] t) :: R) (W.setCell ⟨g, 0, none⟩ v') := by
  have h1 := h.lies _ (List.mem_cons_self ..)
  exact h.putT hB hR ((Fr.refl [g] W).setCell _ _ (by simp)) (heap_setCell_same W g 0 _ _ v' h1) h3 h4
theorem encT_cs (V : Pages) (x : Tl) : ∃ cs ev, encT V x = #[.agg cs, .int .i64 ev] ∧ cs.size = 5 ∧ (cs.all fun v => v.oneCell') = true := by
  cases x with
  | none => exact ⟨_, _, rfl, rfl, noLink_one⟩
  | some p => obtain ⟨q, pb⟩ := p; exact ⟨_, _, rfl, rfl, lkV_one _ _ _ _ _ _ _⟩
def GetJ (w0 : World) (V : Pages) (K : KL) (b4 b5 b6 : Nat) (pre : List Tl) (KJ : KL) : Prop :=
  ∃ v KR, RowK w0.heap.size 5 v (arr (valT V pre)).toList KR ∧ (∀ x ∈ pre, x ≠ none) ∧ Dj KR ((b6, .cells #[v] 26) :: (b4, .cells #[.slice none 0 0] 26) :: (b5, .cells #[.int .i64 0] 40) :: K) ∧ KJ = KR ++ ((b6, .cells #[v] 26) :: (b4, .cells #[.slice none 0 0] 26) :: (b5, .cells #[.int .i64 0] 40) :: K)
section
variable {w0 w : World} {bp : Nat} {b : Bk} {K : KL} (h : Ab w0 w bp b K)
include h
set_option maxRecDepth 100000 in
set_option maxHeartbeats 4000000 in
theorem nget_any {V : Pages} (hv : Shows b.x V) (hp3 : 3 ≤ b.x.pages) (hp : b.x.pages ≤ 1000000) (hd : IsHd b.x.pages (V 0)) (first : Int) {l : List Nat} {t : Bool} (hw : ChW b.x.pages V first l t) :
    Calls Tryz.prog 13 #[.pointer (some ⟨bp, 0, none⟩), .int .i64 first] w fun e w' => ∃ v ev, e = .returned (.tuple #[v, .int .i64 ev]) ∧ ∃ KR, Hid (RdK w0 bp b (KR ++ K) w' ∧ Dj KR K ∧ ((t = false ∧ v = .slice none 0 0 ∧ ev = 4 ∧ KR = []) ∨ (t = true ∧ ev = 0 ∧ RowK w0.heap.size 5 v (arr (valOf V l)).toList KR))) := by
  have S0 : RdK w0 bp b K w := ⟨b, Rd.refl h⟩
  have hpos : 0 < b.x.pages := by omega
  have IT := fun n hn bF bB => nlinks_iter (w0 := w0) (bp := bp) n hn hv hp3 hp hd bF bB first hw
  have hlt : ∀ p ∈ K, p.1 < w.heap.size := fun p hp => (Array.getElem?_eq_some_iff.1 (h.kp p hp).1).1
  have S1 := (rd_keeper w0 bp b).new (.cells #[.int .i64 0] 40) ((rd_keeper w0 bp b).new (.cells #[.slice none 0 0] 26) S0)
  rw [World.size_alloc] at S1
  obtain ⟨b4, hb4⟩ : ∃ b4, w.heap.size = b4 := ⟨_, rfl⟩
  rw [hb4] at S1 hlt
  obtain ⟨w1, hw1⟩ : ∃ w1, (w.alloc (.cells #[.slice none 0 0] 26)).alloc (.cells #[.int .i64 0] 40) = w1 := ⟨_, rfl⟩
  have hs1 : w1.heap.size = b4 + 2 := by rw [← hw1]; simp [World.size_alloc, hb4]
  rw [hw1] at S1
  obtain ⟨bk1, r1⟩ := S1
  have MD := nmade_yes r1.ab (by rw [r1.tr.pages]; exact hpos)
  have S2 := (rd_keeper w0 bp b).new (.cells #[.slice none 0 0] 26) ⟨bk1, r1⟩
  rw [hs1] at S2
  obtain ⟨w2, hw2⟩ : ∃ w2, w1.alloc (.cells #[.slice none 0 0] 26) = w2 := ⟨_, rfl⟩
  have hs2 : w2.heap.size = b4 + 3 := by rw [← hw2, World.size_alloc, hs1]
  rw [hw2] at S2
  have LK := nlinks_mk w2 bp first
  rw [hs2] at LK
  have HS2 := hidI (And.intro S2 (And.intro hs2 hlt))
  have HB4 : Hid (w0.heap.size ≤ b4) := hidI (by rw [← hb4]; exact (h.fresh (Nat.le_refl _)).1)
  have HCL : Hid (∀ q, LkAt b.x.pages V q (Pg.kindOf (V q)) → 2 < (cellOf (V q)).length ∧ (cellOf (V q)).length ≤ 1000) := hidI (fun q hk => by
    have := lk_cell hk (h.len hv hk.hi)
    exact ⟨this.2.1, this.2.2.1⟩)
  have HVL : Hid ((valOf V l).length ≤ 70000) := hidI (by
    rcases hw with ⟨-, rfl, -⟩ | ⟨-, hw⟩
    · simp [valOf]
    · cases l with
      | nil => simp [valOf]
      | cons q l =>
        have h1 := (wk_val hw).2.1 q l rfl
        have h2 := (wk_val hw).2.2 q (by simp)
        have h3 := (lk_cell h2 (h.len hv h2.hi)).2.2.1
        have h4 := (restOf_nn (cellOf (V q))).2
        unfold alOf rsOf at h1
        omega)
  clear r1 S0 S2 hlt h hv hp3 hp hd hw
  refine (callsIn_wide (n := 8)).1 ?_
  refine callsIn_of_wp_marks Tryz.func13 rfl trivial ?_
  simp only [Tryz.ntmps13, List.size_toArray, List.length_cons, List.length_nil, Nat.reduceAdd, Nat.reduceSub, Array.replicate_succ, Array.replicate_zero, List.push_toArray, List.append_toArray, List.nil_append, List.cons_append]
  gi_wp2_with (first
    | (refine ⟨trivial, ?_⟩
       gi_at_call 39
       refine (callsIn_wide.2 MD).mono ?_
       rintro e w3 ⟨rfl, rfl⟩)
    | (refine ⟨trivial, ?_⟩
       gi_at_call 40
       refine (callsIn_wide.2 LK).mono ?_
       rintro e w4 ⟨rfl, q1, q2, f4⟩))
  have hS4 : RdK w0 bp b (((b4 + 2, .cells #[.slice none 0 0] 26) :: (b4, .cells #[.slice none 0 0] 26) :: (b4 + 1, .cells #[.int .i64 0] 40) :: K) ++ kiOf bp first (b4 + 3 + 1) (b4 + 3)) w4 := by
    obtain ⟨⟨bk2, r2⟩, e2, -⟩ := HS2.out
    have a1 := (r2.ab.quiet f4).add q2 (r2.ab.fresh (Nat.le_of_eq e2)).2.1
    have a2 := a1.add q1 (r2.ab.fresh (by omega)).2.1
    refine ⟨bk2, (r2.quiet f4).on (a2.less (fun p hp => ?_))⟩
    simp only [kiOf, List.mem_append, List.mem_cons, List.not_mem_nil, or_false] at hp ⊢
    rcases hp with (h | h | h | h) | h | h <;> simp [h]
  have hlK : ∀ p ∈ K, p.1 < b4 := HS2.out.2.2
  have dj0 : Dj ((b4 + 2, .cells #[.slice none 0 0] 26) :: (b4, .cells #[.slice none 0 0] 26) :: (b4 + 1, .cells #[.int .i64 0] 40) :: K) (kiOf bp first (b4 + 3 + 1) (b4 + 3)) := fun p hp q hq => by
    simp only [kiOf, List.mem_cons, List.not_mem_nil, or_false] at hp hq
    have : p.1 < b4 + 3 := by
      rcases hp with h | h | h | h
      · rw [h]; show b4 + 2 < _; omega
      · rw [h]; show b4 < _; omega
      · rw [h]; show b4 + 1 < _; omega
      · have := hlK p h; omega
    rcases hq with rfl | rfl
    · show p.1 ≠ b4 + 3 + 1; omega
    · show p.1 ≠ b4 + 3; omega
  have hB4 : w0.heap.size ≤ b4 := HB4.out
  refine wpIn_rangeFunc_K (n := 8) rfl (by omega) (gf := 90) (lb := #[.pointer (some ⟨b4 + 3 + 1, 0, none⟩), .pointer (some ⟨b4 + 3, 0, none⟩)]) rfl trivial (enters_of Tryz.func90 (by kernel_rfl) rfl) (rd_keeper w0 bp b) (xt_mono b.x.pages V) (IT 7 (by omega) (b4 + 3 + 1) (b4 + 3)) (fun x => encT_size V x)
    (GetJ w0 V K b4 (b4 + 1) (b4 + 2))
    (fun c _ KJ => c = .ret ∧ t = false ∧ ∃ v KR, KJ = KR ++ ((b4 + 2, .cells #[v] 26) :: (b4, .cells #[.slice none 0 0] 26) :: (b4 + 1, .cells #[.int .i64 4] 40) :: K))
    (fun pre x KJ a' => ∃ KJ0 b7 cs ev, GetJ w0 V K b4 (b4 + 1) (b4 + 2) pre KJ0 ∧ encT V x = #[.agg cs, .int .i64 ev] ∧ KJ = (b7, .cells cs 79) :: KJ0 ∧ (∀ p ∈ KJ0, p.1 ≠ b7) ∧ a' = { tmps := #[.pointer (some ⟨bp, 0, none⟩), .int .i64 first, undef, undef, .pointer (some ⟨b4, 0, none⟩), .pointer (some ⟨b4 + 1, 0, none⟩), .pointer (some ⟨b4 + 2, 0, none⟩), .pointer (some ⟨b7, 0, none⟩), .int .i64 ev, .pointer (some ⟨bp, 0, none⟩), .bool true, .bool false, .pointer (some ⟨bp, 0, none⟩), .int .i64 first, .func (.func 90) #[] #[.pointer (some ⟨b4 + 3 + 1, 0, none⟩), .pointer (some ⟨b4 + 3, 0, none⟩)], .agg cs, .int .i64 ev, undef, undef, undef, undef, undef, undef, undef, undef], defers := [] })
    hS4 dj0 ⟨.slice none 0 0, [], .inl ⟨rfl, rfl, rfl⟩, fun x hx => (nomatch hx), fun p hp => (nomatch hp), rfl⟩ ?assign ?body ?done ?stop
  case assign =>
    rintro lp pre x KJ KO W Kont hJ hs hd hx hsp hK
    obtain ⟨cs, ev, hE, h5, h1⟩ := encT_cs V x
    rw [hE]
    have Z := heap_alloc_new W (.cells noLink 79)
    unfold noLink at Z
    gi_wp2_with (refine wpIn_storeL rfl _ _ rfl W.heap.size _ cs rfl h5 h1 rfl rfl Z ?_; intro W2 b2 f2)
    obtain ⟨v, KR, hrow, hnn, hdj, rfl⟩ := hJ
    have f0 : Fr [] W W2 := ((Fr.refl [] W).alloc (.cells noLink 79)).then f2 (fun i hi hm => by
      have e := List.mem_singleton.1 hm
      omega)
    have S2 := hs.newF f0 (Nat.le_refl _) b2
    have hlW : ∀ p ∈ (KR ++ ((b4 + 2, .cells #[v] 26) :: (b4, .cells #[.slice none 0 0] 26) :: (b4 + 1, .cells #[.int .i64 0] 40) :: K)) ++ KO, p.1 ≠ W.heap.size := fun p hp => Nat.ne_of_lt (Array.getElem?_eq_some_iff.1 (hs.lies p hp)).1
    refine hK _ _ _ ⟨_, W.heap.size, cs, ev, ⟨v, KR, hrow, hnn, hdj, rfl⟩, hE, rfl, fun p hp => hlW p (List.mem_append.2 (.inl hp)), rfl⟩ S2 ?_
    intro p hp q hq
    rcases List.mem_cons.1 hp with rfl | hp
    · exact fun e => hlW q (List.mem_append.2 (.inr hq)) e.symm
    · exact hd p hp q hq
  case body =>
    rintro lp pre x a' KJ KO W ⟨KJ0, b7, cs, ev, ⟨v, KR, hrow, hnn, hdj, rfl⟩, hE, rfl, h7, rfl⟩ hs hd hx hsp
    have e4 := hs.lies (b4, .cells #[.slice none 0 0] 26) (by simp)
    have e5 := hs.lies (b4 + 1, .cells #[.int .i64 0] 40) (by simp)
    have e6 := hs.lies (b4 + 2, .cells #[v] 26) (by simp)
    have e7 := hs.lies (b7, .cells cs 79) (by simp)
    simp only at e4 e5 e6 e7
    have nR : ∀ p ∈ KR ++ (K ++ KO), p.1 ≠ b4 ∧ p.1 ≠ b4 + 1 ∧ p.1 ≠ b4 + 2 := fun p hp => by
      simp only [List.mem_append] at hp
      rcases hp with h | h | h
      · exact ⟨hdj p h (b4, .cells #[.slice none 0 0] 26) (by simp), hdj p h (b4 + 1, .cells #[.int .i64 0] 40) (by simp), hdj p h (b4 + 2, .cells #[v] 26) (by simp)⟩
      · have := hlK p h
        omega
      · exact ⟨fun e => hd (b4, .cells #[.slice none 0 0] 26) (by simp) p h e.symm, fun e => hd (b4 + 1, .cells #[.int .i64 0] 40) (by simp) p h e.symm, fun e => hd (b4 + 2, .cells #[v] 26) (by simp) p h e.symm⟩
    cases x with
    | none =>
      obtain ⟨rfl, rfl⟩ : cs = noLink ∧ ev = 4 := by unfold encT at hE; simp at hE; exact ⟨hE.1.symm, hE.2.symm⟩
      have c4 := cell_of_row W b4 0 _ _ _ e4
      have g4 := frozen_of_row W b4 0 _ _ e4
      have e5' : (W.setCell ⟨b4, 0, none⟩ (.slice none 0 0)).heap[b4 + 1]? = some (.cells #[.int .i64 0] 40) := (heap_setCell_other W ⟨b4, 0, none⟩ _ _ (by show b4 + 1 ≠ b4; omega)).trans e5
      have c5 := cell_of_row _ (b4 + 1) 0 _ _ _ e5'
      have g5 := frozen_of_row _ (b4 + 1) 0 _ _ e5'
      have e4' := heap_setCell_same W b4 0 _ _ (.slice none 0 0) e4
      gi_wp2
      refine ⟨KR ++ ((b4 + 2, .cells #[v] 26) :: (b4, .cells #[.slice none 0 0] 26) :: (b4 + 1, .cells #[.int .i64 4] 40) :: K), ⟨rfl, told_none hsp, v, KR, rfl⟩, ?_, ?_⟩
      · have s1 : RdK w0 bp b ((b4, .cells #[.slice none 0 0] 26) :: (b4 + 1, .cells #[.int .i64 0] 40) :: (b4 + 2, .cells #[v] 26) :: (KR ++ (K ++ KO))) W := hs.less (fun p hp => by
          simp only [List.mem_append, List.mem_cons] at hp ⊢
          rcases hp with h | h | h | h | h | h <;> simp [h])
        have s2 := s1.setK (.slice none 0 0) hB4 (fun p hp => by
          simp only [List.mem_cons] at hp
          rcases hp with rfl | rfl | hp
          · show b4 + 1 ≠ b4; omega
          · show b4 + 2 ≠ b4; omega
          · exact (nR p hp).1) (by decide) (by decide)
        have s3 : RdK w0 bp b ((b4 + 1, .cells #[.int .i64 0] 40) :: (b4, .cells #[.slice none 0 0] 26) :: (b4 + 2, .cells #[v] 26) :: (KR ++ (K ++ KO))) _ := s2.less (fun p hp => by
          simp only [List.mem_cons] at hp ⊢
          rcases hp with h | h | h | h <;> simp [h])
        have s4 := s3.setK (.int .i64 4) (by omega) (fun p hp => by
          simp only [List.mem_cons] at hp
          rcases hp with rfl | rfl | hp
          · show b4 ≠ b4 + 1; omega
          · show b4 + 2 ≠ b4 + 1; omega
          · exact (nR p hp).2.1) (by decide) (by decide)
        exact s4.less (fun p hp => by
          simp only [List.mem_append, List.mem_cons] at hp ⊢
          rcases hp with (h | h | h | h | h) | h <;> simp [h])
      · intro p hp q hq
        simp only [List.mem_append, List.mem_cons] at hp
        rcases hp with h | rfl | rfl | rfl | h
        · exact hd p (by simp [h]) q hq
        · exact hd (b4 + 2, .cells #[v] 26) (by simp) q hq
        · exact hd (b4, .cells #[.slice none 0 0] 26) (by simp) q hq
        · exact hd (b4 + 1, .cells #[.int .i64 0] 40) (by simp) q hq
        · exact hd p (by simp [h]) q hq
    | some pq =>
      obtain ⟨q, pb⟩ := pq
      obtain ⟨rfl, rfl⟩ : cs = lkC V q pb ∧ ev = 0 := by unfold encT at hE; simp at hE; exact ⟨hE.1.symm, hE.2.symm⟩
      have hcl := HCL.out q hx.2
      have c6 : W.cell? ⟨b4 + 2, 0, none⟩ = some v := cell_of_row W (b4 + 2) 0 _ _ _ e6
      have g6 := frozen_of_row W (b4 + 2) 0 _ _ e6
      have c7 : W.cell? ⟨b7, 4, none⟩ = some (.slice (some ⟨pb, 2, none⟩) ((cellOf (V q)).length - 2) ((cellOf (V q)).length - 2)) := cell_of_row W b7 4 _ _ _ e7
      have hlen := told_len (V := V) hsp
      rw [valT_snoc] at hlen
      obtain ⟨i5, hi5, hz5, hs5, hb5⟩ := info5'
      have hR1 : RdK w0 bp b (KR ++ ((b4 + 2, .cells #[v] 26) :: (b4, .cells #[.slice none 0 0] 26) :: (b4 + 1, .cells #[.int .i64 0] 40) :: (K ++ KO))) W := hs.less (fun p hp => by
        simp only [List.mem_append, List.mem_cons] at hp ⊢
        rcases hp with h | h | h | h | h | h <;> simp [h])
      have hD1 : Dj KR ((b4 + 2, .cells #[v] 26) :: (b4, .cells #[.slice none 0 0] 26) :: (b4 + 1, .cells #[.int .i64 0] 40) :: (K ++ KO)) := fun p hp q hq => by
        simp only [List.mem_append, List.mem_cons] at hq
        rcases hq with h | h | h | h | h
        · exact hdj p hp q (by simp [h])
        · exact hdj p hp q (by simp [h])
        · exact hdj p hp q (by simp [h])
        · exact hdj p hp q (by simp [h])
        · exact hd p (by simp [hp]) q h
      obtain ⟨news, hnews⟩ : ∃ news, news = (arr ((cellOf (V q)).drop 2)).toList := ⟨_, rfl⟩
      have hnl : news.length = (cellOf (V q)).length - 2 := by rw [hnews]; simp [arr]
      have hpbk := hs.lies _ (List.mem_append.2 (.inr hx.1))
      have hnc : ∀ j u, news[j]? = some u → W.cell? ((⟨pb, 2, none⟩ : Addr).add j) = some u := fun j u hu => by
        rw [Addr.add_mid]
        refine (cell_of_row W pb (2 + j) _ _ _ hpbk).trans ?_
        rw [arr_at]
        rw [hnews] at hu
        simp [arr] at hu
        obtain ⟨x, hx2, hx3⟩ := hu
        rw [hx2, ← hx3]
        rfl
      have hone : ∀ u ∈ news, u.oneCell' = true := fun u hu => by
        rw [hnews] at hu
        exact arr_one _ u hu
      have HN := hidI (And.intro hnc hone)
      gi_wp2_with (first
        | (gi_at_builtin
           refine wpIn_appK rfl _ _ rfl Tryz.underlying26 hi5 hz5 hs5 hb5 rfl (by decide) (by decide) hrow hR1 hD1 ⟨pb, 2, none⟩ _ _ news rfl rfl hnl HN.out.1 HN.out.2 (by omega) (by rw [Array.length_toList, arr_size, hnl]; rw [List.length_append, List.length_drop] at hlen; have := HVL.out; omega) (by decide) ?_
           intro g cap w5 KR5 hrow5 hs5 hd5
           have e6' := hs5.lies (b4 + 2, .cells #[v] 26) (by simp)
           have c6' : w5.cell? ⟨b4 + 2, 0, none⟩ = some v := cell_of_row w5 (b4 + 2) 0 _ _ _ e6'
           have g6' := frozen_of_row w5 (b4 + 2) 0 _ _ e6'))
      have hn5 : ∀ p ∈ KR5 ++ (K ++ KO), p.1 ≠ b4 + 2 := fun p hp => by
        simp only [List.mem_append] at hp
        rcases hp with h | h | h
        · exact hd5 p h (b4 + 2, .cells #[v] 26) (by simp)
        · exact (nR p (by simp [h])).2.2
        · exact (nR p (by simp [h])).2.2
      have s1 : RdK w0 bp b ((b4 + 2, .cells #[v] 26) :: (b4, .cells #[.slice none 0 0] 26) :: (b4 + 1, .cells #[.int .i64 0] 40) :: (KR5 ++ (K ++ KO))) w5 := hs5.less (fun p hp => by
        simp only [List.mem_append, List.mem_cons] at hp ⊢
        rcases hp with h | h | h | h | h | h <;> simp [h])
      have el : (arr (valT V pre)).toList.length = (arr (valT V pre)).size := Array.length_toList
      rw [el] at hrow5
      have s2 := s1.setK (.slice (some ⟨g, 0, none⟩) ((arr (valT V pre)).size + ((cellOf (V q)).length - 2)) cap) (by omega) (fun p hp => by
        simp only [List.mem_cons] at hp
        rcases hp with rfl | rfl | hp
        · show b4 ≠ b4 + 2; omega
        · show b4 + 1 ≠ b4 + 2; omega
        · exact hn5 p hp) (by decide) (by decide)
      refine ⟨_, ⟨.slice (some ⟨g, 0, none⟩) ((arr (valT V pre)).size + ((cellOf (V q)).length - 2)) cap, KR5, ?_, ?_, ?_, rfl⟩, s2.less (fun p hp => ?_), ?_⟩
      · rw [valT_snoc]
        have e : (arr (valT V pre ++ (cellOf (V q)).drop 2)).toList = (arr (valT V pre)).toList ++ news := by rw [hnews]; simp [arr]
        rw [e]
        exact hrow5
      · intro x hx
        rcases List.mem_append.1 hx with h | h
        · exact hnn x h
        · rw [List.mem_singleton.1 h]
          exact fun e => nomatch e
      · intro p hp q hq
        simp only [List.mem_cons] at hq
        rcases hq with rfl | rfl | rfl | hq
        · exact hd5 p hp (b4 + 2, .cells #[v] 26) (by simp)
        · exact hd5 p hp (b4, .cells #[.slice none 0 0] 26) (by simp)
        · exact hd5 p hp (b4 + 1, .cells #[.int .i64 0] 40) (by simp)
        · exact hd5 p hp q (by simp [hq])
      · simp only [List.mem_append, List.mem_cons] at hp ⊢
        rcases hp with (h | h | h | h | h) | h
        · exact .inr (.inr (.inr (.inl h)))
        · exact .inl (by simpa using h)
        · exact .inr (.inl h)
        · exact .inr (.inr (.inl h))
        · exact .inr (.inr (.inr (.inr (.inl h))))
        · exact .inr (.inr (.inr (.inr (.inr h))))
      · intro p hp q hq
        simp only [List.mem_append, List.mem_cons] at hp
        rcases hp with h | rfl | rfl | rfl | h
        · exact hd5 p h q (by simp [hq])
        · exact hd (b4 + 2, .cells #[v] 26) (by simp) q hq
        · exact hd (b4, .cells #[.slice none 0 0] 26) (by simp) q hq
        · exact hd (b4 + 1, .cells #[.int .i64 0] 40) (by simp) q hq
        · exact hd p (by simp [h]) q hq
  case done =>
    rintro D xs KJ W hS ⟨v, KR, hrow, hnn, hdj, rfl⟩ hs hd hB
    have e4 := hs.lies (b4, .cells #[.slice none 0 0] 26) (by simp)
    have e5 := hs.lies (b4 + 1, .cells #[.int .i64 0] 40) (by simp)
    have e6 := hs.lies (b4 + 2, .cells #[v] 26) (by simp)
    have eD := hs.lies (D, .deferred (some [])) (by simp)
    simp only at e4 e5 e6 eD
    obtain ⟨va, vn, vc, rfl⟩ := hrow.form
    have c6 : W.cell? ⟨b4 + 2, 0, none⟩ = some (.slice va vn vc) := cell_of_row W (b4 + 2) 0 _ _ _ e6
    have c4 : W.cell? ⟨b4, 0, none⟩ = some (.slice none 0 0) := cell_of_row W b4 0 _ _ _ e4
    have g4 := frozen_of_row W b4 0 _ _ e4
    have e5' : (W.setCell ⟨b4, 0, none⟩ (.slice va vn vc)).heap[b4 + 1]? = some (.cells #[.int .i64 0] 40) := (heap_setCell_other W ⟨b4, 0, none⟩ _ _ (by show b4 + 1 ≠ b4; omega)).trans e5
    have c5 : (W.setCell ⟨b4, 0, none⟩ (.slice va vn vc)).cell? ⟨b4 + 1, 0, none⟩ = some (.int .i64 0) := cell_of_row _ (b4 + 1) 0 _ _ _ e5'
    have g5 := frozen_of_row _ (b4 + 1) 0 _ _ e5'
    gi_wp2
    obtain ⟨W2, hW2⟩ : ∃ W2, (W.setCell ⟨b4, 0, none⟩ (.slice va vn vc)).setCell ⟨b4 + 1, 0, none⟩ (.int .i64 0) = W2 := ⟨_, rfl⟩
    rw [hW2]
    have nR : ∀ p ∈ KR ++ (K ++ ((D, .deferred (some [])) :: kiOf bp first (b4 + 3 + 1) (b4 + 3))), p.1 ≠ b4 ∧ p.1 ≠ b4 + 1 ∧ p.1 ≠ b4 + 2 := fun p hp => by
      simp only [List.mem_append] at hp
      rcases hp with h | h | h
      · exact ⟨hdj p h (b4, .cells #[.slice none 0 0] 26) (by simp), hdj p h (b4 + 1, .cells #[.int .i64 0] 40) (by simp), hdj p h (b4 + 2, .cells #[.slice va vn vc] 26) (by simp)⟩
      · have := hlK p h
        omega
      · exact ⟨fun e => hd (b4, .cells #[.slice none 0 0] 26) (by simp) p h e.symm, fun e => hd (b4 + 1, .cells #[.int .i64 0] 40) (by simp) p h e.symm, fun e => hd (b4 + 2, .cells #[.slice va vn vc] 26) (by simp) p h e.symm⟩
    have s1 : RdK w0 bp b ((b4, .cells #[.slice none 0 0] 26) :: (b4 + 1, .cells #[.int .i64 0] 40) :: (KR ++ (K ++ ((D, .deferred (some [])) :: kiOf bp first (b4 + 3 + 1) (b4 + 3))))) W := hs.less (fun p hp => by
      simp only [List.mem_append, List.mem_cons] at hp ⊢
      rcases hp with h | h | h | h | h | h <;> simp [h])
    have s2 := s1.setK (.slice va vn vc) hB4 (fun p hp => by
      simp only [List.mem_cons] at hp
      rcases hp with rfl | hp
      · show b4 + 1 ≠ b4; omega
      · exact (nR p hp).1) (by decide) (by decide)
    have s3 : RdK w0 bp b ((b4 + 1, .cells #[.int .i64 0] 40) :: (b4, .cells #[.slice va vn vc] 26) :: (KR ++ (K ++ ((D, .deferred (some [])) :: kiOf bp first (b4 + 3 + 1) (b4 + 3))))) _ := s2.less (fun p hp => by
      simp only [List.mem_cons] at hp ⊢
      rcases hp with h | h | h <;> simp [h])
    have s4 := s3.setK (.int .i64 0) (by omega) (fun p hp => by
      simp only [List.mem_cons] at hp
      rcases hp with rfl | hp
      · show b4 ≠ b4 + 1; omega
      · exact (nR p hp).2.1) (by decide) (by decide)
    rw [hW2] at s4
    have s5 : RdK w0 bp b ((D, .deferred (some [])) :: (b4 + 1, .cells #[.int .i64 0] 40) :: (b4, .cells #[.slice va vn vc] 26) :: (KR ++ K)) W2 := s4.less (fun p hp => by
      simp only [List.mem_append, List.mem_cons] at hp ⊢
      rcases hp with h | h | h | h | h <;> simp [h])
    have hKD := s5.lies _ (List.mem_cons_self ..)
    have s6 := (rd_keeper w0 bp b).put (.deferred none) s5 hB rfl (fun p hp => by
      simp only [List.mem_append, List.mem_cons] at hp
      rcases hp with rfl | rfl | h | h
      · exact hd (b4 + 1, .cells #[.int .i64 0] 40) (by simp) (D, .deferred (some [])) (by simp)
      · exact hd (b4, .cells #[.slice none 0 0] 26) (by simp) (D, .deferred (some [])) (by simp)
      · exact hd p (by simp [h]) (D, .deferred (some [])) (by simp)
      · exact hd p (by simp [h]) (D, .deferred (some [])) (by simp))
    have x4 := s6.cell (g := b4) (v := .slice va vn vc) (t := 26) (by simp)
    have x5 := s6.cell (g := b4 + 1) (v := .int .i64 0) (t := 40) (by simp)
    have ht := told_done hS hnn
    subst ht
    have hval : valT V xs = valOf V l := valT_some V xs l (by have := hS; unfold STold told at this; simpa using this)
    rw [hval] at hrow
    refine ⟨by simp, .inl ⟨_, _, rfl, run_takeDeferred hKD, ?_⟩⟩
    refine ⟨_, resCC rfl _ _ b4 (b4 + 1) (.slice va vn vc) (.int .i64 0) rfl rfl ?_ ?_, _, _, rfl, KR, hidI ⟨s6.less (fun p hp => by simp only [List.mem_append, List.mem_cons] at hp ⊢; rcases hp with h | h <;> simp [h]), hdj.mono (fun _ h => h) (fun p hp => by simp [hp]), .inr ⟨rfl, rfl, hrow⟩⟩⟩
    · unfold loadVar
      go_simp
    · unfold loadVar
      go_simp
  case stop =>
    rintro D c pre KJ W hSp ⟨rfl, rfl, v, KR, rfl⟩ hs hd hB
    have s5 : RdK w0 bp b ((D, .deferred (some [])) :: (b4 + 1, .cells #[.int .i64 4] 40) :: (b4, .cells #[.slice none 0 0] 26) :: K) W := hs.less (fun p hp => by
      simp only [List.mem_append, List.mem_cons] at hp ⊢
      rcases hp with h | h | h | h <;> simp [h])
    have hKD := s5.lies _ (List.mem_cons_self ..)
    have s6 := (rd_keeper w0 bp b).put (.deferred none) s5 hB rfl (fun p hp => by
      simp only [List.mem_cons] at hp
      rcases hp with rfl | rfl | h
      · exact hd (b4 + 1, .cells #[.int .i64 4] 40) (by simp) (D, .deferred (some [])) (by simp)
      · exact hd (b4, .cells #[.slice none 0 0] 26) (by simp) (D, .deferred (some [])) (by simp)
      · exact hd p (by simp [h]) (D, .deferred (some [])) (by simp))
    have x4 := s6.cell (g := b4) (v := .slice none 0 0) (t := 26) (by simp)
    have x5 := s6.cell (g := b4 + 1) (v := .int .i64 4) (t := 40) (by simp)
    gi_wp2
    refine ⟨by simp, .inl ⟨_, _, rfl, run_takeDeferred hKD, ?_⟩⟩
    refine ⟨_, resCC rfl _ _ b4 (b4 + 1) (.slice none 0 0) (.int .i64 4) rfl rfl ?_ ?_, _, _, rfl, [], hidI ⟨s6.less (fun p hp => by simp at hp; simp [hp]), fun p hp => (nomatch hp), by simp⟩⟩
    · unfold loadVar
      go_simp
    · unfold loadVar
      go_simp
end
end Go.Proofs.YthajipigppndgaaGreat


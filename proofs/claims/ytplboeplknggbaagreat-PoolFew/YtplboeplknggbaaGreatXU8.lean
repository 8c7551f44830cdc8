/-
  A pool is awake: pages are changed, put out and in again.
-/
import Derived.Test.YtplboeplknggbaaGreatXU7
namespace Go.Proofs.YtplboeplknggbaaGreat
open Go.RowKit Go.Maps

theorem RigAt.lt {w : World} {rg : Nat} {x : Po} (h : RigAt w rg x) : rg < w.heap.size := (Array.getElem?_eq_some_iff.1 h.box).1
theorem RigAt.step {w w' : World} {rg : Nat} {x x' : Po} (h : RigAt w rg x) (st : Step w w' x x') (hd : x'.y.d = x.y.d) (hp : x'.y.p = x.y.p) (hpp : x'.pp = x.pp) : RigAt w' rg x' := by
  have hlt := h.lt
  have h1 : rg ∉ x.own := fun e => h.ne (List.mem_cons_of_mem _ e)
  refine ⟨?_, st.at', ?_⟩
  · rw [hd, hp, hpp]
    exact h.box.kept st.fr h1
  · rw [hpp]
    intro e
    rcases List.mem_cons.1 e with e | e
    · exact h.ne (by rw [e]; exact List.mem_cons_self)
    · rcases st.ow rg e with h2 | h2
      · exact h1 h2
      · omega
theorem Step.quiet {w w' : World} {x : Po} (h : PoAt w x) (f : Fr [] w w') : Step w w' x x := ⟨h.kept f (by simp), f.mono (fun _ _ e => nomatch e), fun k hk => Or.inl hk⟩
theorem val_y {x : Po} {y' : Lo} (hpg : ∀ q, q < x.pages → pgD x.start y' q = pgD x.start x.y q) : Alike x { x with y := y' } :=
  ⟨rfl, rfl, rfl, rfl, rfl, rfl, fun q hq l hv => by
    rcases hv with h1 | ⟨h1, h2⟩
    · exact Or.inl h1
    · exact Or.inr ⟨h1, (hpg q hq).trans h2⟩⟩
theorem Step.grew {w w' : World} {x : Po} (h : PoAt w x) {y' : Lo} (ls : LStep w w' x.y y') (g : Grew x.y y') : Step w w' x { x with y := y' } ∧ Alike x { x with y := y' } := by
  have hpg : ∀ q, q < x.pages → pgD x.start y' q = pgD x.start x.y q := fun q hq => g.out _ (by have := h.dis; omega)
  exact ⟨Step.lower h ls.at' ls.fr (fun k hk => hk) ls.ow g.d g.p g.bs g.bo g.nb g.first g.count g.E hpg, val_y hpg⟩
/-- What is behind append1. -/
structure RApp (w w' : World) (rg : Nat) (x : Po) (fit : Bool) (lsn : Nat) (y' : Lo) : Prop where
  at' : RigAt w' rg { x with y := y' }
  st : Step w w' x { x with y := y' }
  al : Alike x { x with y := y' }
  gr : Grew x.y y'
  le : lsn ≤ y'.E
  ok : fit = true → 1 ≤ lsn
theorem rig_app1 {w : World} {rg : Nat} {x : Po} (h : RigAt w rg x) (blk off : Int) (l : List UInt8) (a1 : Option Addr) (n1 c1 : Nat) (ad : Option Addr) (c : Nat) (hb : BytesAt w ad l) (hbn : ad = none → l.length = 0 ∧ c = 0) (hbo : ∀ b o, ad = some ⟨b, o, none⟩ → b ∉ x.y.own) (hlen : l.length ≤ 2000) (hE : x.y.E + 1067 ≤ 400000) (hT0 : 1 ≤ x.y.T) (hc12 : x.y.count = 12) :
    Calls Tryz.prog 30 #[.pointer (some ⟨rg, 0, none⟩), .agg #[.int .i64 blk, .int .i64 off, .slice a1 n1 c1, .slice ad l.length c]] w fun e w' => ∃ lsn : Nat, e = .returned (.int .i64 (lsn : Int)) ∧ ∃ y', RApp w w' rg x (fitsB blk off l.length) lsn y' := by
  refine (app1_any h.po.lo h.box blk off l a1 n1 c1 ad c hb hbn hbo hlen hE hT0 hc12).mono ?_
  rintro e w' ⟨lsn, rfl, y', ls, gr, hle, hok⟩
  obtain ⟨st, al⟩ := Step.grew h.po ls gr
  exact ⟨lsn, rfl, y', ⟨h.step st gr.d gr.p rfl, st, al, gr, hle, hok⟩⟩
/-- What a pool is behind Change. -/
def Chg (x x'' : Po) (page off : Nat) (l : List UInt8) (lsn : Int) : Prop := ∃ (f : Fm) (x' : Po) (j : Nat), Fnd x x' page f ∧ x'.fs[j]? = some f ∧ x'' = { x' with fs := x'.fs.set j (f.changed off l lsn) }
theorem Chg.val {x x'' : Po} {page off : Nat} {l : List UInt8} {lsn : Int} (h : Chg x x'' page off l lsn) (hn : ((ids x.fs).map (·.1)).Nodup) (hn2 : ((ids x''.fs).map (·.1)).Nodup) :
    x''.start = x.start ∧ x''.pages = x.pages ∧ x''.most = x.most ∧ x''.pp = x.pp ∧ x''.mp = x.mp ∧ x''.rp = x.rp ∧ (∀ q, q < x.pages → q ≠ page → ∀ m, Val x q m → Val x'' q m) ∧ (∀ m, Val x page m → Val x'' page (over m off l)) := by
  obtain ⟨f, x', j, hf, hj, rfl⟩ := h
  obtain ⟨al, hv, hpg⟩ := hf.alike hn
  have hids : (ids (x'.fs.set j (f.changed off l lsn))).map (·.1) = (ids x'.fs).map (·.1) := by rw [ids_set (f' := f.changed off l lsn) hj rfl rfl]
  have hn' : ((ids x'.fs).map (·.1)).Nodup := by rw [← hids]; exact hn2
  refine ⟨al.1, al.2.1, al.2.2.1, al.2.2.2.1, al.2.2.2.2.1, al.2.2.2.2.2.1, fun q hq hne m hm => ?_, fun m hm => ?_⟩
  · rcases al.2.2.2.2.2.2 q hq m hm with ⟨g, hg, h1, h2⟩ | ⟨h1, h2⟩
    · obtain ⟨i, hi⟩ := List.mem_iff_getElem?.1 hg
      have hij : i ≠ j := fun e => by
        subst e
        rw [hj] at hi
        cases hi
        exact hne (h1.symm.trans hpg)
      exact Or.inl ⟨g, List.mem_of_getElem? (i := i) (by rw [List.getElem?_set_ne (fun e => hij e.symm)]; exact hi), h1, h2⟩
    · exact Or.inr ⟨by show q ∉ (ids (x'.fs.set j _)).map (·.1); rw [hids]; exact h1, h2⟩
  · have e1 := Val.uniq hn hm hv
    refine Or.inl ⟨f.changed off l lsn, List.mem_of_getElem? (i := j) (List.getElem?_set_self (List.getElem?_eq_some_iff.1 hj).1), hpg, ?_⟩
    show over f.l off l = over m off l
    rw [e1]
theorem Fnd.hd0 {x x' : Po} {page : Nat} {f : Fm} (h : Fnd x x' page f) (h0 : ∀ g ∈ x.fs, g.hd = 0) : (∀ g ∈ x'.fs, g.hd = 0) ∧ f.hd = 0 := by
  rcases h with ⟨j, f0, hj, rfl, rfl, rfl⟩ | ⟨hno, hm, hf⟩
  · have h1 := h0 _ (List.mem_of_getElem? hj)
    refine ⟨fun g hg => ?_, h1⟩
    rcases mem_set hj hg with rfl | ⟨i, _, hgi⟩
    · exact h1
    · exact h0 g (List.mem_of_getElem? hgi)
  · refine ⟨?_, by rw [hf]; rfl⟩
    rcases hm with ⟨_, a, c, rfl⟩ | ⟨_, y', k, j, f1, _, _, hf1, _, rfl, _⟩
    · intro g hg
      rcases List.mem_append.1 hg with h1 | h1
      · exact h0 g h1
      · rw [List.mem_singleton.1 h1]
        rfl
    · intro g hg
      have hlt : j < (turnS k (x.fs.set j { f1 with fst := 0 }, x.hand)).1.length := by rw [turnS_len, List.length_set]; exact (List.getElem?_eq_some_iff.1 hf1).1
      rcases mem_set (List.getElem?_eq_getElem hlt) hg with rfl | ⟨i, hi, hgi⟩
      · rfl
      · obtain ⟨g', h1, h2⟩ := turnS_at k (x.fs.set j { f1 with fst := 0 }, x.hand) i g hgi
        have h3 : g'.hd = 0 := by
          rcases mem_set hf1 (List.mem_of_getElem? h1) with rfl | ⟨i', _, hgi'⟩
          · exact h0 f1 (List.mem_of_getElem? hf1)
          · exact h0 g' (List.mem_of_getElem? hgi')
        rcases h2 with rfl | rfl
        · exact h3
        · exact h3
theorem Chg.hd0 {x x'' : Po} {page off : Nat} {l : List UInt8} {lsn : Int} (h : Chg x x'' page off l lsn) (h0 : ∀ g ∈ x.fs, g.hd = 0) : ∀ g ∈ x''.fs, g.hd = 0 := by
  obtain ⟨f, x', j, hf, hj, rfl⟩ := h
  obtain ⟨h1, h2⟩ := hf.hd0 h0
  intro g hg
  rcases mem_set hj hg with rfl | ⟨i, _, hgi⟩
  · exact h2
  · exact h1 g (List.mem_of_getElem? hgi)
theorem Chg.kin {x x'' : Po} {page off : Nat} {l : List UInt8} {lsn : Int} (h : Chg x x'' page off l lsn) : Kin x.y x''.y := by
  obtain ⟨f, x', j, hf, hj, rfl⟩ := h
  exact hf.kin
theorem Chg.pgs {x x'' : Po} {page off : Nat} {l : List UInt8} {lsn : Int} (h : Chg x x'' page off l lsn) : ∃ f x', Fnd x x' page f ∧ x''.fs.length = x'.fs.length ∧ (ids x''.fs).map (·.1) = (ids x'.fs).map (·.1) := by
  obtain ⟨f, x', j, hf, hj, rfl⟩ := h
  exact ⟨f, x', hf, List.length_set, by rw [show ({ x' with fs := x'.fs.set j (f.changed off l lsn) } : Po).fs = x'.fs.set j (f.changed off l lsn) from rfl, ids_set (f' := f.changed off l lsn) hj rfl rfl]⟩
/-- The pages that are in frames behind a page was asked for. -/
theorem Fnd.pgs {x x' : Po} {page : Nat} {f : Fm} (h : Fnd x x' page f) : ∀ q ∈ (ids x'.fs).map (·.1), q ∈ (ids x.fs).map (·.1) ∨ q = page := by
  rcases h with ⟨j, f0, hj, rfl, rfl, rfl⟩ | ⟨hno, hm, hf⟩
  · intro q hq
    left
    rw [show (x.asked j f0).fs = x.fs.set j { f0 with ask := true } from rfl, ids_set (f' := { f0 with ask := true }) hj rfl rfl] at hq
    exact hq
  · rcases hm with ⟨_, a, c, rfl⟩ | ⟨_, y', k, j, f1, _, _, hf1, _, rfl, _⟩
    · intro q hq
      have h1 : q ∈ (ids (x.fs ++ [newF f.b page (pgD x.start x.y page)])).map (·.1) := hq
      rw [ids_pg, List.map_append, List.mem_append, ← ids_pg] at h1
      rcases h1 with h1 | h1
      · exact Or.inl h1
      · simp [newF] at h1
        exact Or.inr h1
    · intro q hq
      have h1 : q ∈ (ids ((turnS k (x.fs.set j { f1 with fst := 0 }, x.hand)).1.set j (newF f.b page (pgD x.start x.y page)))).map (·.1) := hq
      rw [ids_pg, List.map_set, ← ids_pg, turnS_ids] at h1
      rcases List.mem_or_eq_of_mem_set h1 with h2 | h2
      · left
        rw [show ids (x.fs.set j { f1 with fst := 0 }) = ids x.fs from ids_set (f' := { f1 with fst := 0 }) hf1 rfl rfl] at h2
        exact h2
      · exact Or.inr h2
theorem Busy.no {x : Po} {page : Nat} (h : Busy x page) (h0 : ∀ g ∈ x.fs, g.hd = 0) (hm : 8 ≤ x.most) : False := by
  obtain ⟨h1, _, h3⟩ := h
  obtain ⟨f, hf⟩ : ∃ f, x.fs[0]? = some f := ⟨_, List.getElem?_eq_getElem (by omega)⟩
  exact h3 f (List.mem_of_getElem? hf) (h0 f (List.mem_of_getElem? hf))
theorem rig_change {w : World} {rg : Nat} {x : Po} (h : RigAt w rg x) {page : Nat} (hp : page < x.pages) (off : Nat) (a1 : Option Addr) (n1 c1 : Nat) (ad : Option Addr) (c : Nat) (l : List UInt8) (hl : 0 < l.length) (hfit : off + l.length ≤ 512) (hb : BytesAt w ad l) (hbo : ∀ b o, ad = some ⟨b, o, none⟩ → b ∉ x.own) (lsn : Int) (hl1 : 1 ≤ lsn) (hl2 : lsn ≤ (x.y.E : Int)) :
    Calls Tryz.prog 15 #[.pointer (some ⟨x.pp, 0, none⟩), .agg #[.int .i64 (page : Int), .int .i64 (off : Int), .slice a1 n1 c1, .slice ad l.length c], .int .i64 lsn] w fun e w' => (e = .returned (.int .i64 9) ∧ Busy x page ∧ Fr [] w w') ∨ (e = .returned (.int .i64 0) ∧ ∃ x'', RigAt w' rg x'' ∧ Step w w' x x'' ∧ Chg x x'' page off l lsn) := by
  refine (change_any h.po hp off a1 n1 c1 ad c l hl hfit hb hbo lsn hl1 hl2).mono ?_
  rintro e w' (⟨h1, h2, h3⟩ | ⟨f, x', j, rfl, st, hf, hj⟩)
  · exact Or.inl ⟨h1, h2, h3⟩
  · have al := (hf.alike h.po.nod).1
    have k := hf.kin
    exact Or.inr ⟨rfl, _, h.step st k.d k.p al.2.2.2.1, st, f, x', j, hf, hj, rfl⟩
/-- What is behind a Read of a page. -/
structure RRead (w w' : World) (rg : Nat) (x x' : Po) (page g : Nat) (f : Fm) : Prop where
  at' : RigAt w' rg x'
  st : Step w w' x x'
  fnd : Fnd x x' page f
  row : Blk w' g f.l
  new : w.heap.size ≤ g
  ne : g ∉ x'.own
theorem rig_read {w : World} {rg : Nat} {x : Po} (h : RigAt w rg x) {page : Nat} (hp : page < x.pages) :
    Calls Tryz.prog 14 #[.pointer (some ⟨x.pp, 0, none⟩), .int .i64 (page : Int)] w fun e w' => (e = .returned (.tuple #[.slice none 0 0, .int .i64 9]) ∧ Busy x page ∧ Fr [] w w') ∨ ∃ g : Nat, e = .returned (.tuple #[.slice (some ⟨g, 0, none⟩) 512 512, .int .i64 0]) ∧ ∃ f x', RRead w w' rg x x' page g f := by
  refine (read_any h.po hp).mono ?_
  rintro e w' (⟨h1, h2, h3⟩ | ⟨f, x', j, g, rfl, st, hf, hj, hb, hg, hno⟩)
  · exact Or.inl ⟨h1, h2, h3⟩
  · have al := (hf.alike h.po.nod).1
    have k := hf.kin
    exact Or.inr ⟨g, rfl, f, x', ⟨h.step st k.d k.p al.2.2.2.1, st, hf, hb, hg, hno⟩⟩
end Go.Proofs.YtplboeplknggbaaGreat

namespace Go.Proofs.YtplboeplknggbaaGreat
open Go.RowKit Go.Maps

/-- The rig of awake while pages are changed. -/
structure Aw (w wr : World) (rg : Nat) (x : Po) (i : Nat) : Prop where
  at' : RigAt wr rg x
  fr : Fr [] w wr
  new : ∀ k ∈ rg :: x.pp :: x.own, w.heap.size ≤ k
  pages : x.pages = 20
  most : x.most = 8
  count : x.y.count = 12
  T : x.y.T = 1
  E : x.y.E ≤ 1067 * i
  hd : ∀ f ∈ x.fs, f.hd = 0
  few : i < 8 → x.fs.length = i ∧ ∀ q ∈ (ids x.fs).map (·.1), q < i
  all : 8 ≤ i → x.fs.length = 8
  val : ∀ q, q < i → q < 20 → ∃ l, Val x q l ∧ l[500]? = some (UInt8.ofNat (q + 1))
theorem aw_new {w wr w' : World} {x x' : Po} {rg : Nat} (h : ∀ k ∈ rg :: x.pp :: x.own, w.heap.size ≤ k) (f : Fr [] w wr) (st : Step wr w' x x') (hpp : x'.pp = x.pp) : (∀ k ∈ rg :: x'.pp :: x'.own, w.heap.size ≤ k) ∧ Fr [] w w' := by
  refine ⟨fun k hk => ?_, f.then st.fr (fun i hi hm => ?_)⟩
  · rw [hpp] at hk
    simp only [List.mem_cons] at hk
    rcases hk with hk | hk | hk
    · exact h k (by simp [hk])
    · exact h k (by simp [hk])
    · rcases st.ow k hk with h1 | h1
      · exact h k (by simp [h1])
      · exact Nat.le_trans f.size h1
  · have := h i (by simp [hm])
    omega
theorem aw_few {x x' : Po} {i : Nat} {f : Fm} (hf : Fnd x x' i f) (hm : x.most = 8) (few : i < 8 → x.fs.length = i ∧ ∀ q ∈ (ids x.fs).map (·.1), q < i) (all : 8 ≤ i → x.fs.length = 8) :
    (i + 1 < 8 → x'.fs.length = i + 1 ∧ ∀ q ∈ (ids x'.fs).map (·.1), q < i + 1) ∧ (8 ≤ i + 1 → x'.fs.length = 8) := by
  by_cases hi : i < 8
  · obtain ⟨h1, h2⟩ := few hi
    have hno : i ∉ (ids x.fs).map (·.1) := fun e => by have := h2 i e; omega
    have hl : x'.fs.length = i + 1 := by
      rcases hf.length with ⟨h3, h4 | h4⟩ | ⟨h3, h4, _⟩
      · exact absurd h4 hno
      · omega
      · omega
    refine ⟨fun h3 => ⟨hl, fun q hq => ?_⟩, fun h3 => by omega⟩
    rcases hf.pgs q hq with h4 | h4
    · have := h2 q h4
      omega
    · omega
  · have h1 := all (by omega)
    refine ⟨fun h3 => by omega, fun _ => ?_⟩
    rcases hf.length with ⟨h3, _⟩ | ⟨h3, h4, _⟩
    · omega
    · omega
theorem over500 {m : List UInt8} (h : m.length = 512) (b : UInt8) : (over m 500 [b])[500]? = some b := by
  unfold over
  rw [List.getElem?_append_right (by simp [h]), List.length_take, h]
  rfl
/-- A page is changed: what was so far is, and it too. -/
theorem Aw.chg {w wr w1 w2 : World} {rg : Nat} {x : Po} {i : Nat} (h : Aw w wr rg x i) (hi : i < 20) {y' : Lo} {lsn : Nat} {fit : Bool} (ra : RApp wr w1 rg x fit lsn y') {x'' : Po} (r2 : RigAt w2 rg x'') (st : Step w1 w2 { x with y := y' } x'') (hc : Chg { x with y := y' } x'' i 500 [UInt8.ofNat (i + 1)] (lsn : Int)) : Aw w w2 rg x'' (i + 1) := by
  have h1 := aw_new h.new h.fr ra.st rfl
  have hv := hc.val ra.at'.po.nod r2.po.nod
  have h2 := aw_new h1.1 h1.2 st hv.2.2.2.1
  have k := hc.kin
  obtain ⟨f, x', hf, hl, hids⟩ := hc.pgs
  have hfw := aw_few hf h.most h.few h.all
  refine ⟨r2, h2.2, h2.1, hv.2.1.trans h.pages, hv.2.2.1.trans h.most, k.count.trans (ra.gr.count.trans h.count), k.T.trans (ra.gr.T.trans h.T), ?_, hc.hd0 h.hd, ?_, ?_, ?_⟩
  · have e1 : x''.y.E = y'.E := k.E
    have := ra.gr.E2
    have := h.E
    omega
  · rw [hl, hids]
    exact hfw.1
  · rw [hl]
    exact hfw.2
  · intro q hq hq2
    by_cases e : q = i
    · subst e
      obtain ⟨m, hm⟩ := Val.ex x q
      have hm1 := ra.al.2.2.2.2.2.2 q (by rw [h.pages]; exact hi) m hm
      exact ⟨_, hv.2.2.2.2.2.2.2 m hm1, over500 (hm.len h.at'.po) _⟩
    · obtain ⟨m, hm, hb⟩ := h.val q (by omega) hq2
      have hm1 := ra.al.2.2.2.2.2.2 q (by rw [h.pages]; exact hq2) m hm
      exact ⟨m, hv.2.2.2.2.2.2.1 q (by show q < x.pages; rw [h.pages]; exact hq2) e m hm1, hb⟩
/-- A page is read. -/
theorem Aw.read {w wr w1 : World} {rg : Nat} {x x' : Po} {g : Nat} {f : Fm} {i k : Nat} (h : Aw w wr rg x i) (hi8 : 8 ≤ i) (r : RRead wr w1 rg x x' k g f) : Aw w w1 rg x' i ∧ Val x k f.l := by
  obtain ⟨al, hv, _⟩ := r.fnd.alike h.at'.po.nod
  have h1 := aw_new h.new h.fr r.st al.2.2.2.1
  have kk := r.fnd.kin
  refine ⟨⟨r.at', h1.2, h1.1, al.2.1.trans h.pages, al.2.2.1.trans h.most, kk.count.trans h.count, kk.T.trans h.T, by rw [kk.E]; exact h.E, (r.fnd.hd0 h.hd).1, fun h3 => by omega, fun _ => ?_, fun q hq hq2 => ?_⟩, hv⟩
  · have h3 := h.all hi8
    have h4 := h.most
    rcases r.fnd.length with ⟨h5, _⟩ | ⟨h5, _, _⟩
    · omega
    · omega
  · obtain ⟨m, hm, hb⟩ := h.val q hq hq2
    exact ⟨m, al.2.2.2.2.2.2 q (by rw [h.pages]; exact hq2) m hm, hb⟩
set_option maxHeartbeats 4000000 in
set_option maxRecDepth 100000 in
theorem awake_any (w : World) : Calls Tryz.prog 7 #[] w fun e w' => e = .returned (.bool true) ∧ Fr [] w w' := by
  go_enter Tryz.func7, Tryz.ntmps7
  go_wp2_with fail
  refine (begin_ok w 20 8 (by omega) (by omega) (by omega) (by omega)).mono ?_
  rintro e w1 ⟨rg, d, bs, bo, p, pp, rp, mp, rfl, R1, N1, f1⟩
  have A1 := hidI (⟨R1, f1, N1, rfl, rfl, rfl, rfl, Nat.le_refl _, fun f hf => (nomatch hf), fun _ => ⟨rfl, fun q hq => (nomatch hq)⟩, fun h => absurd h (by omega), fun q hq => absurd hq (by omega)⟩ : Aw w w1 rg (po0 d bs bo (12 + ((20 : Nat) : Int)) p pp rp mp 12 20 8 12) 0)
  have c2 : w1.cell? ⟨rg, 2, none⟩ = some (.pointer (some ⟨pp, 0, none⟩)) := R1.box.c2
  clear R1 N1 f1
  go_wp2_with fail
  go_loopw [2, 3] (fun s2 s3 wr => ∃ (i : Nat) (x : Po), i ≤ 20 ∧ s2 = .int .i64 (i : Int) ∧ s3 = s3 ∧ x.pp = pp ∧ Hid (Aw w wr rg x i)) (fun s2 _ _ => 20 - (intOf s2).toNat)
  case atStart => exact ⟨0, _, by omega, rfl, rfl, rfl, A1⟩
  case round =>
    obtain ⟨i, x, hi, rfl, -, hpp, HA⟩ := hrel
    have k2 : wr.cell? ⟨rg, 2, none⟩ = some (.pointer (some ⟨pp, 0, none⟩)) := by rw [← hpp]; exact HA.out.at'.box.c2
    by_cases hlt : i < 20
    · have q1 : (i : Int) < 20 := by omega
      have hwi : IntKind.i64.wrap ((i : Int) + 1) = (i : Int) + 1 := wrapI _ (by omega) (by omega)
      have fa : Fr [] wr ((wr.alloc (.cells #[.int .u8 ((i : Int) + 1)] 5)).alloc (.cells #[.int .i64 (i : Int), .int .i64 500, .slice none 0 0, .slice (some ⟨wr.heap.size, 0, none⟩) 1 1] 42)) := ((Fr.refl [] wr).alloc _).alloc _
      have hb2 : ((wr.alloc (.cells #[.int .u8 ((i : Int) + 1)] 5)).alloc (.cells #[.int .i64 (i : Int), .int .i64 500, .slice none 0 0, .slice (some ⟨wr.heap.size, 0, none⟩) 1 1] 42)).heap[wr.heap.size]? = some (.cells #[.int .u8 ((i : Int) + 1)] 5) := ((Fr.refl [] (wr.alloc (.cells #[.int .u8 ((i : Int) + 1)] 5))).alloc _).same (by simp) (heap_alloc_new wr _)
      have hs2 : ((wr.alloc (.cells #[.int .u8 ((i : Int) + 1)] 5)).alloc (.cells #[.int .i64 (i : Int), .int .i64 500, .slice none 0 0, .slice (some ⟨wr.heap.size, 0, none⟩) 1 1] 42)).heap[wr.heap.size + 1]? = some (.cells #[.int .i64 (i : Int), .int .i64 500, .slice none 0 0, .slice (some ⟨wr.heap.size, 0, none⟩) 1 1] 42) := by
        have h1 := heap_alloc_new (wr.alloc (.cells #[.int .u8 ((i : Int) + 1)] 5)) (.cells #[.int .i64 (i : Int), .int .i64 500, .slice none 0 0, .slice (some ⟨wr.heap.size, 0, none⟩) 1 1] 42)
        have e1 : (wr.alloc (.cells #[.int .u8 ((i : Int) + 1)] 5)).heap.size = wr.heap.size + 1 := by simp
        rw [e1] at h1
        exact h1
      go_wp2_with fail
      generalize ((wr.alloc (.cells #[.int .u8 ((i : Int) + 1)] 5)).alloc (.cells #[.int .i64 (i : Int), .int .i64 500, .slice none 0 0, .slice (some ⟨wr.heap.size, 0, none⟩) 1 1] 42)) = w2 at fa hb2 hs2 ⊢
      obtain ⟨bb, HBB⟩ : ∃ bb, Hid (wr.heap.size = bb) := ⟨_, rfl⟩
      obtain ⟨sb, HSB⟩ : ∃ sb, Hid (wr.heap.size + 1 = sb) := ⟨_, rfl⟩
      rw [HSB.out, HBB.out] at hs2
      rw [HBB.out] at hb2
      rw [HSB.out, HBB.out]
      have R2 := hidI (HA.out.at'.kept fa (by simp) (by simp))
      have hB : BytesAt w2 (some ⟨bb, 0, none⟩) [UInt8.ofNat (i + 1)] := by
        intro j v hv
        cases j with
        | zero =>
          refine ⟨bb, 0, rfl, ?_⟩
          have e1 : ((i : Int) + 1) % 256 = (i : Int) + 1 := by omega
          simp [arr] at hv
          subst hv
          rw [e1]
          exact cell_of_row w2 bb 0 _ _ _ hb2
        | succ j => simp [arr] at hv
      have HBY := hidI hB
      have hown : ∀ k ∈ rg :: x.pp :: x.own, k < bb := fun k hk => by
        have h1 : k < wr.heap.size := by
          rcases List.mem_cons.1 hk with rfl | hk
          · exact HA.out.at'.lt
          · exact HA.out.at'.po.lt k hk
        rw [← HBB.out]
        exact h1
      have HOW := hidI hown
      have HS2 := hidI hs2
      have hsb : bb < sb := by have := HBB.out; have := HSB.out; omega
      clear hB hown hb2 hs2
      go_cut [32] from 13 to 32 (fun s32 wx => s32 = .bool false ∧ ∃ x', x'.pp = pp ∧ Hid (Aw w wx rg x' (i + 1)))
      case first =>
        obtain ⟨W0, HW0⟩ : ∃ W0, Hid (W0 = w2) := ⟨_, rfl⟩
        have gg : Fr [] W0 w2.drew := (by rw [HW0.out]; exact (Fr.refl _ _).drew)
        have SK : Hid (∀ w' L, Fr L W0 w' → (∀ k ∈ L, k ∈ x.own) → w'.cell? ⟨rg, 2, none⟩ = some (.pointer (some ⟨pp, 0, none⟩)) ∧ w'.cell? ⟨sb, 0, none⟩ = some (.int .i64 (i : Int)) ∧ w'.cell? ⟨sb, 1, none⟩ = some (.int .i64 500) ∧ w'.cell? ⟨sb, 2, none⟩ = some (.slice none 0 0) ∧ w'.cell? ⟨sb, 3, none⟩ = some (.slice (some ⟨bb, 0, none⟩) 1 1)) := hidI (fun w' L f hL => by
          rw [HW0.out] at f
          have hL2 : ∀ k ∈ L, k < bb := fun k hk => HOW.out k (List.mem_cons_of_mem _ (List.mem_cons_of_mem _ (hL k hk)))
          have r1 := R2.out.box.kept f (fun e => HA.out.at'.ne (List.mem_cons_of_mem _ (hL _ e)))
          have s1 := f.same (k := sb) (fun e => by have := hL2 _ e; omega) HS2.out
          refine ⟨by rw [← hpp]; exact r1.c2, cell_of_row w' sb 0 _ _ _ s1, cell_of_row w' sb 1 _ _ _ s1, cell_of_row w' sb 2 _ _ _ s1, cell_of_row w' sb 3 _ _ _ s1⟩)
        have k0 := SK.out _ [] gg (by simp)
        have R2d := hidI (R2.out.kept (Fr.refl [] w2).drew (by simp) (by simp))
        have HCHG : Hid (∀ w4 lsn y4, RApp w2.drew w4 rg x (fitsB (i : Int) 500 1) lsn y4 → Calls Tryz.prog 15 #[.pointer (some ⟨pp, 0, none⟩), .agg #[.int .i64 (i : Int), .int .i64 500, .slice none 0 0, .slice (some ⟨bb, 0, none⟩) 1 1], .int .i64 (lsn : Int)] w4 fun e w5 => e = .returned (.int .i64 0) ∧ ∃ x5, RigAt w5 rg x5 ∧ Step w4 w5 { x with y := y4 } x5 ∧ Chg { x with y := y4 } x5 i 500 [UInt8.ofNat (i + 1)] (lsn : Int)) := hidI (fun w4 lsn y4 ra => by
          have hbx : bb ∉ ({ x with y := y4 } : Po).own := fun e => by
            rcases ra.st.ow bb e with h1 | h1
            · have := HOW.out bb (List.mem_cons_of_mem _ (List.mem_cons_of_mem _ h1))
              omega
            · have h2 := (Array.getElem?_eq_some_iff.1 HS2.out).1
              have h3 : w2.heap.size ≤ bb := h1
              omega
          have HCH := rig_change ra.at' (page := i) (by show i < x.pages; rw [HA.out.pages]; exact hlt) 500 none 0 0 (some ⟨bb, 0, none⟩) 1 [UInt8.ofNat (i + 1)] (by simp) (by simp) ((HBY.out.kept (Fr.refl [] w2).drew (by simp)).kept ra.st.fr (fun b o e => by
            cases e
            intro hb
            have := HOW.out bb (List.mem_cons_of_mem _ (List.mem_cons_of_mem _ hb))
            omega)) (fun b o e => by cases e; exact hbx) (lsn : Int) (by have h1 := ra.ok (by simp [fitsB]; omega); omega) (by have := ra.le; show (lsn : Int) ≤ (y4.E : Int); omega)
          rw [← hpp]
          refine HCH.mono ?_
          rintro e w5 (⟨_, hbz, _⟩ | ⟨rfl, x5, r5, st5, ch5⟩)
          · exact absurd hbz (fun hbz => hbz.no HA.out.hd (by show 8 ≤ x.most; rw [HA.out.most]; omega))
          · exact ⟨rfl, x5, r5, st5, ch5⟩)
        have HE := HA.out.E
        have HT := HA.out.T
        have HC := HA.out.count
        have HP := HA.out.pages
        go_region_held3 (fun w' => w'.cell? ⟨rg, 2, none⟩ = some (.pointer (some ⟨pp, 0, none⟩)) ∧ w'.cell? ⟨sb, 0, none⟩ = some (.int .i64 (i : Int)) ∧ w'.cell? ⟨sb, 1, none⟩ = some (.int .i64 500) ∧ w'.cell? ⟨sb, 2, none⟩ = some (.slice none 0 0) ∧ w'.cell? ⟨sb, 3, none⟩ = some (.slice (some ⟨bb, 0, none⟩) 1 1)) (first | exact SK.out _ [] gg (by simp) | exact kk)
          ((first
            | (go_at_call 30; refine (rig_app1 R2d.out (i : Int) 500 [UInt8.ofNat (i + 1)] none 0 0 (some ⟨bb, 0, none⟩) 1 (HBY.out.kept (Fr.refl [] w2).drew (by simp)) (fun e => nomatch e) (fun b o e => by cases e; intro hb; have := HOW.out bb (by simp only [Po.own, List.mem_cons, List.mem_append]; exact Or.inr (Or.inr (Or.inr (Or.inr hb)))); omega) (by simp) (by omega) (by omega) HC).mono ?_; rintro e w4 ⟨lsn, rfl, y4, ra4⟩; have kk : w4.cell? ⟨rg, 2, none⟩ = some (.pointer (some ⟨pp, 0, none⟩)) ∧ w4.cell? ⟨sb, 0, none⟩ = some (.int .i64 (i : Int)) ∧ w4.cell? ⟨sb, 1, none⟩ = some (.int .i64 500) ∧ w4.cell? ⟨sb, 2, none⟩ = some (.slice none 0 0) ∧ w4.cell? ⟨sb, 3, none⟩ = some (.slice (some ⟨bb, 0, none⟩) 1 1) := SK.out _ x.own ((gg.mono (fun _ _ e => nomatch e)).trans ra4.st.fr) (fun _ hk => hk); have RA4 := hidI ra4; clear ra4)
            | (go_at_call 15; refine (HCHG.out _ _ _ RA4.out).mono ?_; rintro e w5 ⟨rfl, x5, r5, st5, ch5⟩; have kk := SK.out _ x.own ((gg.mono (M := x.own) (fun _ _ e => nomatch e)).trans (RA4.out.st.trans st5).fr) (fun _ hk => hk))))
        all_goals
          have HAW := hidI ((⟨HA.out.at'.kept (fa.trans (Fr.refl [] w2).drew) (by simp) (by simp), HA.out.fr.trans (fa.trans (Fr.refl [] w2).drew), HA.out.new, HA.out.pages, HA.out.most, HA.out.count, HA.out.T, HA.out.E, HA.out.hd, HA.out.few, HA.out.all, HA.out.val⟩ : Aw w w2.drew rg x i).chg hlt RA4.out r5 st5 ch5)
          have hv5 := (ch5.val RA4.out.at'.po.nod r5.po.nod).2.2.2.1
          have hpp5 : x5.pp = pp := hv5.trans hpp
          clear r5 st5 ch5 hv5
          go_wp2_with fail
          go_meet
          exact ⟨rfl, x5, hpp5, HAW⟩
      case rest =>
        obtain ⟨rfl, x5, hpp5, HA5⟩ := hcut
        go_wp2_with fail
        exact ⟨⟨i + 1, x5, by omega, by go_num, trivial, hpp5, HA5⟩, by simp [intOf]; omega⟩
    · have q1 : ¬ (i : Int) < 20 := by omega
      have hi20 : i = 20 := by omega
      subst hi20
      go_wp2_with fail
      go_loopw [4, 5, 6] (fun s4 s5 s6 wz => ∃ (k : Nat) (z : Po), k ≤ 20 ∧ s4 = .int .i64 (k : Int) ∧ s5 = s5 ∧ s6 = s6 ∧ z.pp = pp ∧ Hid (Aw w wz rg z 20)) (fun s4 _ _ _ => 20 - (intOf s4).toNat)
      case atStart => exact ⟨0, x, by omega, rfl, rfl, rfl, hpp, HA⟩
      case round =>
        obtain ⟨k, z, hk, rfl, -, -, hzp, HZ⟩ := hrel
        have c2z : wr.cell? ⟨rg, 2, none⟩ = some (.pointer (some ⟨pp, 0, none⟩)) := by rw [← hzp]; exact HZ.out.at'.box.c2
        by_cases hk2 : k < 20
        · have q2 : (k : Int) < 20 := by omega
          have hwk : IntKind.i64.wrap ((k : Int) + 1) = (k : Int) + 1 := wrapI _ (by omega) (by omega)
          have HRD : Hid (Calls Tryz.prog 14 #[.pointer (some ⟨pp, 0, none⟩), .int .i64 (k : Int)] wr fun e w' => ∃ g : Nat, e = .returned (.tuple #[.slice (some ⟨g, 0, none⟩) 512 512, .int .i64 0]) ∧ w'.cell? ⟨g, 500, none⟩ = some (.int .u8 ((k : Int) + 1)) ∧ ∃ z', z'.pp = pp ∧ Hid (Aw w w' rg z' 20)) := hidI (by
            rw [← hzp]
            refine (rig_read HZ.out.at' (page := k) (by rw [HZ.out.pages]; exact hk2)).mono ?_
            rintro e w' (⟨_, hbz, _⟩ | ⟨g, rfl, f, z', rr⟩)
            · exact absurd hbz (fun hbz => hbz.no HZ.out.hd (by rw [HZ.out.most]; omega))
            · obtain ⟨hz', hv⟩ := HZ.out.read (by omega) rr
              obtain ⟨m, hm, hb⟩ := HZ.out.val k hk2 hk2
              have e1 := Val.uniq HZ.out.at'.po.nod hm hv
              rw [e1] at hb
              refine ⟨g, rfl, ?_, z', ((rr.fnd.alike HZ.out.at'.po.nod).1).2.2.2.1, hidI hz'⟩
              have h1 := rr.row
              unfold Blk at h1
              rw [cell_of_row w' g 500 _ _ _ h1]
              have h2 : (arr f.l)[500]? = some (.int .u8 ((UInt8.ofNat (k + 1)).toNat : Int)) := by
                unfold arr
                rw [List.getElem?_toArray, List.getElem?_map, hb]
                rfl
              rw [h2]
              have e2 : (UInt8.ofNat (k + 1)).toNat = k + 1 := by simp; omega
              rw [e2]
              rfl)
          go_wp2_with (go_at_call 14; refine HRD.out.mono ?_; rintro e w4 ⟨g, rfl, cg, z', hz', HZ'⟩)
          exact ⟨⟨k + 1, z', by omega, by go_num, trivial, trivial, hz', HZ'⟩, by simp [intOf]; omega⟩
        · have q2 : ¬ (k : Int) < 20 := by omega
          have HFR : Hid (Calls Tryz.prog 12 #[.pointer (some ⟨pp, 0, none⟩)] wr fun e w' => e = .returned (.int .i64 8) ∧ w' = wr) := hidI (by
            have h1 := frames_any HZ.out.at'.po
            rw [hzp, HZ.out.all (by omega)] at h1
            exact h1)
          have HFL : Hid (Calls Tryz.prog 18 #[.pointer (some ⟨pp, 0, none⟩)] wr fun e w' => e = .returned (.int .i64 0) ∧ w'.cell? ⟨rg, 2, none⟩ = some (.pointer (some ⟨pp, 0, none⟩)) ∧ Fr [] w w' ∧ ∃ z', PoAt w' z' ∧ z'.pp = pp ∧ ∀ f ∈ z'.fs, f.fst = 0) := hidI (by
            have h1 := flush_any HZ.out.at'.po
            rw [← hzp]
            refine h1.mono ?_
            rintro e w' ⟨rfl, z', st, fl⟩
            have hz2 := fl.al.2.2.2.1
            have r2 := HZ.out.at'.step st fl.kin.d fl.kin.p hz2
            exact ⟨rfl, by rw [← hz2]; exact r2.box.c2, (aw_new HZ.out.new HZ.out.fr st hz2).2, z', st.at', hz2, fl.clean⟩)
          go_wp2_with (first
            | (go_at_call 12; refine HFR.out.mono ?_; rintro e wx ⟨rfl, hx⟩; rw [hx]; clear hx)
            | (go_at_call 18; refine HFL.out.mono ?_; rintro e w4 ⟨rfl, c4, f4, z', hz4, hpz4, hcl4⟩; have HDI : Hid (Calls Tryz.prog 13 #[.pointer (some ⟨pp, 0, none⟩)] w4 fun e w' => e = .returned (.slice none 0 0) ∧ w' = w4) := hidI (by rw [← hpz4]; exact pdirty_zero hz4 hcl4))
            | (go_at_call 13; refine HDI.out.mono ?_; rintro e wx ⟨rfl, hx⟩; rw [hx]; clear hx))
          go_ret
          exact ⟨rfl, f4⟩
end Go.Proofs.YtplboeplknggbaaGreat


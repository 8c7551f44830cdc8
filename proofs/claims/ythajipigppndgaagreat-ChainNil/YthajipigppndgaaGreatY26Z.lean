/-
  A change logged: the book's logChange.
-/
import Derived.Test.YthajipigppndgaaGreatY21Z
import Derived.Test.YthajipigppndgaaGreatY20Z
import Derived.Test.YthajipigppndgaaGreatY25Z
namespace Go.Proofs.YthajipigppndgaaGreat
open Go.RowKit Go.Maps

theorem Step.quiet {w w' : World} {x : Po} (h : PoAt w x) (f : Fr [] w w') : Step w w' x x := ⟨h.kept f (by simp), f.mono (fun _ _ e => nomatch e), fun k hk => Or.inl hk⟩
theorem val_y {x : Po} {y' : Lo} (hpg : ∀ q, q < x.pages → pgD x.start y' q = pgD x.start x.y q) : Alike x { x with y := y' } :=
  ⟨rfl, rfl, rfl, rfl, rfl, rfl, fun q hq l hv => by
    rcases hv with h1 | ⟨h1, h2⟩
    · exact Or.inl h1
    · exact Or.inr ⟨h1, (hpg q hq).trans h2⟩⟩
/-- What a pool is behind Change. -/
def Chg (x x'' : Po) (page off : Nat) (l : List UInt8) (lsn : Int) : Prop := ∃ (f : Fm) (x' : Po) (j : Nat), Fnd x x' page f ∧ x'.fs[j]? = some f ∧ x'' = { x' with fs := x'.fs.set j (f.changed off l lsn) }
theorem Chg.val {x x'' : Po} {page off : Nat} {l : List UInt8} {lsn : Int} (h : Chg x x'' page off l lsn) (hn : ((ids x.fs).map (·.1)).Nodup) (hn2 : ((ids x''.fs).map (·.1)).Nodup) :
    x''.start = x.start ∧ x''.pages = x.pages ∧ x''.most = x.most ∧ x''.pp = x.pp ∧ x''.mp = x.mp ∧ x''.rp = x.rp ∧ (∀ q, q < x.pages → q ≠ page → ∀ m, Val x q m → Val x'' q m) ∧ (∀ m, Val x page m → Val x'' page (over m off l)) := by
  obtain ⟨f, x', j, hf, hj, rfl⟩ := h
  obtain ⟨al, hv, hpg⟩ := hf.alike hn
  have hids : (ids (x'.fs.set j (f.changed off l lsn))).map (·.1) = (ids x'.fs).map (·.1) := by rw [ids_set (f' := f.changed off l lsn) hj rfl rfl]
  have hn' : ((ids x'.fs).map (·.1)).Nodup := by rw [← hids]; exact hn2
  refine ⟨al.1, al.2.1, al.2.2.1, al.2.2.2.1, al.2.2.2.2.1, al.2.2.2.2.2.1, fun q hq hne m hm => ?_, fun m hm => ?_⟩
  · rcases al.2.2.2.2.2.2 q hq m hm with ⟨g, hg, h1, h2⟩ | ⟨h1, h2⟩
    · obtain ⟨i, hi⟩ := List.mem_iff_getElem?.1 hg
      have hij : i ≠ j := fun e => by
        subst e
        rw [hj] at hi
        cases hi
        exact hne (h1.symm.trans hpg)
      exact Or.inl ⟨g, List.mem_of_getElem? (i := i) (by rw [List.getElem?_set_ne (fun e => hij e.symm)]; exact hi), h1, h2⟩
    · exact Or.inr ⟨by show q ∉ (ids (x'.fs.set j _)).map (·.1); rw [hids]; exact h1, h2⟩
  · have e1 := Val.uniq hn hm hv
    refine Or.inl ⟨f.changed off l lsn, List.mem_of_getElem? (i := j) (List.getElem?_set_self (List.getElem?_eq_some_iff.1 hj).1), hpg, ?_⟩
    show over f.l off l = over m off l
    rw [e1]
theorem Fnd.hd0 {x x' : Po} {page : Nat} {f : Fm} (h : Fnd x x' page f) (h0 : ∀ g ∈ x.fs, g.hd = 0) : (∀ g ∈ x'.fs, g.hd = 0) ∧ f.hd = 0 := by
  rcases h with ⟨j, f0, hj, rfl, rfl, rfl⟩ | ⟨hno, hm, hf⟩
  · have h1 := h0 _ (List.mem_of_getElem? hj)
    refine ⟨fun g hg => ?_, h1⟩
    rcases mem_set hj hg with rfl | ⟨i, _, hgi⟩
    · exact h1
    · exact h0 g (List.mem_of_getElem? hgi)
  · refine ⟨?_, by rw [hf]; rfl⟩
    rcases hm with ⟨_, a, c, rfl⟩ | ⟨_, y', k, j, f1, _, _, hf1, _, rfl, _⟩
    · intro g hg
      rcases List.mem_append.1 hg with h1 | h1
      · exact h0 g h1
      · rw [List.mem_singleton.1 h1]
        rfl
    · intro g hg
      have hlt : j < (turnS k (x.fs.set j { f1 with fst := 0 }, x.hand)).1.length := by rw [turnS_len, List.length_set]; exact (List.getElem?_eq_some_iff.1 hf1).1
      rcases mem_set (List.getElem?_eq_getElem hlt) hg with rfl | ⟨i, hi, hgi⟩
      · rfl
      · obtain ⟨g', h1, h2⟩ := turnS_at k (x.fs.set j { f1 with fst := 0 }, x.hand) i g hgi
        have h3 : g'.hd = 0 := by
          rcases mem_set hf1 (List.mem_of_getElem? h1) with rfl | ⟨i', _, hgi'⟩
          · exact h0 f1 (List.mem_of_getElem? hf1)
          · exact h0 g' (List.mem_of_getElem? hgi')
        rcases h2 with rfl | rfl
        · exact h3
        · exact h3
theorem Chg.hd0 {x x'' : Po} {page off : Nat} {l : List UInt8} {lsn : Int} (h : Chg x x'' page off l lsn) (h0 : ∀ g ∈ x.fs, g.hd = 0) : ∀ g ∈ x''.fs, g.hd = 0 := by
  obtain ⟨f, x', j, hf, hj, rfl⟩ := h
  obtain ⟨h1, h2⟩ := hf.hd0 h0
  intro g hg
  rcases mem_set hj hg with rfl | ⟨i, _, hgi⟩
  · exact h2
  · exact h1 g (List.mem_of_getElem? hgi)
theorem Chg.kin {x x'' : Po} {page off : Nat} {l : List UInt8} {lsn : Int} (h : Chg x x'' page off l lsn) : Kin x.y x''.y := by
  obtain ⟨f, x', j, hf, hj, rfl⟩ := h
  exact hf.kin
theorem Chg.pgs {x x'' : Po} {page off : Nat} {l : List UInt8} {lsn : Int} (h : Chg x x'' page off l lsn) : ∃ f x', Fnd x x' page f ∧ x''.fs.length = x'.fs.length ∧ (ids x''.fs).map (·.1) = (ids x'.fs).map (·.1) := by
  obtain ⟨f, x', j, hf, hj, rfl⟩ := h
  exact ⟨f, x', hf, List.length_set, by rw [show ({ x' with fs := x'.fs.set j (f.changed off l lsn) } : Po).fs = x'.fs.set j (f.changed off l lsn) from rfl, ids_set (f' := f.changed off l lsn) hj rfl rfl]⟩
/-- The pages that are in frames behind a page was asked for. -/
theorem Fnd.pgs {x x' : Po} {page : Nat} {f : Fm} (h : Fnd x x' page f) : ∀ q ∈ (ids x'.fs).map (·.1), q ∈ (ids x.fs).map (·.1) ∨ q = page := by
  rcases h with ⟨j, f0, hj, rfl, rfl, rfl⟩ | ⟨hno, hm, hf⟩
  · intro q hq
    left
    rw [show (x.asked j f0).fs = x.fs.set j { f0 with ask := true } from rfl, ids_set (f' := { f0 with ask := true }) hj rfl rfl] at hq
    exact hq
  · rcases hm with ⟨_, a, c, rfl⟩ | ⟨_, y', k, j, f1, _, _, hf1, _, rfl, _⟩
    · intro q hq
      have h1 : q ∈ (ids (x.fs ++ [newF f.b page (pgD x.start x.y page)])).map (·.1) := hq
      rw [ids_pg, List.map_append, List.mem_append, ← ids_pg] at h1
      rcases h1 with h1 | h1
      · exact Or.inl h1
      · simp [newF] at h1
        exact Or.inr h1
    · intro q hq
      have h1 : q ∈ (ids ((turnS k (x.fs.set j { f1 with fst := 0 }, x.hand)).1.set j (newF f.b page (pgD x.start x.y page)))).map (·.1) := hq
      rw [ids_pg, List.map_set, ← ids_pg, turnS_ids] at h1
      rcases List.mem_or_eq_of_mem_set h1 with h2 | h2
      · left
        rw [show ids (x.fs.set j { f1 with fst := 0 }) = ids x.fs from ids_set (f' := { f1 with fst := 0 }) hf1 rfl rfl] at h2
        exact h2
      · exact Or.inr h2
theorem Busy.no {x : Po} {page : Nat} (h : Busy x page) (h0 : ∀ g ∈ x.fs, g.hd = 0) (hm : 8 ≤ x.most) : False := by
  obtain ⟨h1, _, h3⟩ := h
  obtain ⟨f, hf⟩ : ∃ f, x.fs[0]? = some f := ⟨_, List.getElem?_eq_getElem (by omega)⟩
  exact h3 f (List.mem_of_getElem? hf) (h0 f (List.mem_of_getElem? hf))
end Go.Proofs.YthajipigppndgaaGreat

namespace Go.Proofs.YthajipigppndgaaGreat
open Go.RowKit Go.Maps

/-- A change: its record's place, its page, where, the old bytes, the new ones. -/
structure Ch where
  a : Nat
  pg : Nat
  off : Nat
  old : List UInt8
  new : List UInt8
def nextOf : List Ch → Int
  | [] => 0
  | c :: _ => (c.a : Int) + 1
def keptOf : List Ch → Int
  | [] => 0
  | c :: H => 51 + (c.new.length : Int) + keptOf H
theorem keptOf_nonneg : ∀ H, 0 ≤ keptOf H
  | [] => by simp [keptOf]
  | c :: H => by
    have := keptOf_nonneg H
    simp only [keptOf]
    omega
/-- A change's record. -/
def recOf (num turn prev : Int) (c : Ch) : Rec := ⟨(c.a : Int) + 1, turn, 1, num, prev, 0, (c.pg : Int), (c.off : Int), c.old, c.new⟩
/-- The log has a record at a place. -/
structure RecIn (y : Lo) (a : Nat) (r : Rec) : Prop where
  lo : y.A ≤ a
  hi : a < y.E
  mem : ((a : Int) + 1) ∈ y.ls
  right : rightB r = true
  bytes : ∃ tl, y.lb.drop (a - y.F) = encL r ++ tl
theorem RecIn.kin {y y' : Lo} {a : Nat} {r : Rec} (h : RecIn y a r) (k : Kin y y') : RecIn y' a r :=
  ⟨by rw [k.A]; exact h.lo, by rw [k.E]; exact h.hi, by rw [k.ls]; exact h.mem, h.right, by rw [k.lb a h.lo]; exact h.bytes⟩
theorem RecIn.appd {w : World} {y y' : Lo} {a N : Nat} {r r' : Rec} (h : RecIn y a r) (hy : LoAt w y) (k : Appd y y' N r') : RecIn y' a r := by
  refine ⟨by rw [k.A]; exact h.lo, by rw [k.E]; have := h.hi; omega, by rw [k.ls]; exact List.mem_append_left _ h.mem, h.right, ?_⟩
  obtain ⟨tl, htl⟩ := h.bytes
  have h1 := h.hi
  have h2 := hy.hn
  have h3 := hy.lbl
  rw [k.lb, k.F, List.drop_append_of_le_length (by omega), htl, List.append_assoc]
  exact ⟨_, rfl⟩
theorem RecIn.new {w : World} {y y' : Lo} {N : Nat} {r : Rec} (hy : LoAt w y) (k : Appd y y' N r) (hN : 1 ≤ N) (hr : rightB { r with lsn := (y.E : Int) + 1, turn := (y.T : Int) } = true) : RecIn y' y.E { r with lsn := (y.E : Int) + 1, turn := (y.T : Int) } := by
  refine ⟨by rw [k.A]; exact hy.hAE, by rw [k.E]; omega, by rw [k.ls]; simp, hr, ⟨[], ?_⟩⟩
  have h2 := hy.hn
  have h3 := hy.lbl
  rw [k.lb, k.F, List.append_nil, List.drop_append, List.drop_of_length_le (by omega), List.nil_append, show y.E - y.F - y.lb.length = 0 by omega, List.drop_zero]
/-- The log has the records of all changes, each with the lsn of the one ahead of it. -/
def Chain (y : Lo) (num : Int) : List Ch → Prop
  | [] => True
  | c :: H => RecIn y c.a (recOf num (y.T : Int) (nextOf H) c) ∧ nextOf H ≤ (c.a : Int) ∧ Chain y num H
theorem Chain.kin {y y' : Lo} {num : Int} (k : Kin y y') : ∀ {H : List Ch}, Chain y num H → Chain y' num H
  | [], _ => trivial
  | _ :: _, h => ⟨by rw [k.T]; exact h.1.kin k, h.2.1, Chain.kin k h.2.2⟩
theorem Chain.appd {w : World} {y y' : Lo} {num : Int} {N : Nat} {r : Rec} (hy : LoAt w y) (k : Appd y y' N r) : ∀ {H : List Ch}, Chain y num H → Chain y' num H
  | [], _ => trivial
  | _ :: _, h => ⟨by rw [k.T]; exact h.1.appd hy k, h.2.1, Chain.appd hy k h.2.2⟩
/-- Pages as they are. -/
def Pages := Nat → List UInt8
def setPg (V : Pages) (q : Nat) (l : List UInt8) : Pages := fun k => if k = q then l else V k
/-- A change undone. -/
def undo1 (c : Ch) (V : Pages) : Pages := setPg V c.pg (over (V c.pg) c.off c.old)
def undoAll : List Ch → Pages → Pages
  | [], V => V
  | c :: H, V => undoAll H (undo1 c V)
theorem over_back {l new : List UInt8} {off n : Nat} (hn : new.length = n) (hl : off + n ≤ l.length) : over (over l off new) off ((l.drop off).take n) = l := by
  have h1 : ((l.drop off).take n).length = n := by rw [List.length_take, List.length_drop]; omega
  have h2 : (l.take off).length = off := by rw [List.length_take]; omega
  have e1 : over l off new = l.take off ++ (new ++ l.drop (off + n)) := by unfold over; rw [hn]
  have e2 : (over l off new).take off = l.take off := by rw [e1]; exact List.take_left' h2
  have e3 : (over l off new).drop (off + n) = l.drop (off + n) := by
    rw [e1, ← List.append_assoc]
    exact List.drop_left' (by rw [List.length_append, h2, hn])
  show (over l off new).take off ++ ((l.drop off).take n ++ (over l off new).drop (off + ((l.drop off).take n).length)) = l
  rw [h1, e2, e3]
  have h3 : (l.drop off).take n ++ l.drop (off + n) = l.drop off := by
    rw [← List.drop_drop]
    exact List.take_append_drop n _
  rw [h3, List.take_append_drop]
theorem undo1_do {V : Pages} {c : Ch} (hn : c.old = ((V c.pg).drop c.off).take c.new.length) (hl : c.off + c.new.length ≤ (V c.pg).length) : undo1 c (setPg V c.pg (over (V c.pg) c.off c.new)) = V := by
  funext k
  unfold undo1 setPg
  by_cases e : k = c.pg
  · subst e
    rw [if_pos rfl, if_pos rfl, hn]
    exact over_back rfl hl
  · rw [if_neg e, if_neg e]
/-- All pages of a book are these. -/
def Shows (x : Po) (V : Pages) : Prop := ∀ q, q < x.pages → Val x q (V q)
theorem Shows.alike {x x' : Po} {V : Pages} (h : Shows x V) (k : Alike x x') : Shows x' V := fun q hq => k.2.2.2.2.2.2 q (by rw [← k.2.1]; exact hq) _ (h q (by rw [← k.2.1]; exact hq))
end Go.Proofs.YthajipigppndgaaGreat

namespace Go.Proofs.YthajipigppndgaaGreat
open Go.RowKit Go.Maps
open Pg (SpE diffS)

theorem fr_pg {L : List Nat} {a b : World} (h : Pg.Fr L a b) : Fr L a b := ⟨h.os, h.tape, h.output, h.size, h.block⟩
theorem pg_fr {L : List Nat} {a b : World} (h : Fr L a b) : Pg.Fr L a b := ⟨h.os, h.tape, h.output, h.size, h.block⟩
/-- A row of spans: where each is, its two lists; the first k of them have their page. -/
def SpRow (w : World) (g k : Nat) (pg : Int) (S : List SpE) : Prop := ∃ cur : Array Value, w.heap[g]? = some (.cells cur 146) ∧ ∀ i e, S[i]? = some e → cur[i * 4]? = some (.int .i64 (if i < k then pg else 0)) ∧ cur[i * 4 + 1]? = some (.int .i64 (e.off : Int)) ∧ cur[i * 4 + 2]? = some (.slice (some ⟨e.bo, 0, none⟩) e.n e.n) ∧ cur[i * 4 + 3]? = some (.slice (some ⟨e.bn, 0, none⟩) e.n e.n)
theorem SpRow.kept {w w' : World} {g k : Nat} {pg : Int} {S : List SpE} {L : List Nat} (h : SpRow w g k pg S) (f : Fr L w w') (hg : g ∉ L) : SpRow w' g k pg S := by
  obtain ⟨cur, h1, h2⟩ := h
  exact ⟨cur, f.same hg h1, h2⟩
theorem SpRow.cells {w : World} {g k : Nat} {pg : Int} {S : List SpE} (h : SpRow w g k pg S) {i : Nat} {e : SpE} (hi : S[i]? = some e) : w.cell? ⟨g, i * 4, none⟩ = some (.int .i64 (if i < k then pg else 0)) ∧ w.cell? ⟨g, i * 4 + 1, none⟩ = some (.int .i64 (e.off : Int)) ∧ w.cell? ⟨g, i * 4 + 2, none⟩ = some (.slice (some ⟨e.bo, 0, none⟩) e.n e.n) ∧ w.cell? ⟨g, i * 4 + 3, none⟩ = some (.slice (some ⟨e.bn, 0, none⟩) e.n e.n) := by
  obtain ⟨cur, h1, h2⟩ := h
  obtain ⟨a, b, c, d⟩ := h2 i e hi
  exact ⟨by rw [cell_of_row w g _ _ _ _ h1]; exact a, by rw [cell_of_row w g _ _ _ _ h1]; exact b, by rw [cell_of_row w g _ _ _ _ h1]; exact c, by rw [cell_of_row w g _ _ _ _ h1]; exact d⟩
theorem SpRow.set {w : World} {g k : Nat} {pg : Int} {S : List SpE} (h : SpRow w g k pg S) : SpRow (w.setCell ⟨g, k * 4, none⟩ (.int .i64 pg)) g (k + 1) pg S := by
  obtain ⟨cur, h1, h2⟩ := h
  refine ⟨cur.setIfInBounds (k * 4) (.int .i64 pg), heap_setCell_same w g (k * 4) _ _ _ h1, fun i e hi => ?_⟩
  obtain ⟨a, b, c, d⟩ := h2 i e hi
  refine ⟨?_, ?_, ?_, ?_⟩
  · by_cases e1 : i = k
    · subst e1
      rw [if_pos (by omega)]
      have hl : i * 4 < cur.size := (Array.getElem?_eq_some_iff.1 a).1
      rw [Array.getElem?_setIfInBounds_self_of_lt hl]
    · rw [Array.getElem?_setIfInBounds_ne (by omega), a]
      by_cases e2 : i < k
      · rw [if_pos e2, if_pos (by omega)]
      · rw [if_neg e2, if_neg (by omega)]
  · rw [Array.getElem?_setIfInBounds_ne (by omega)]
    exact b
  · rw [Array.getElem?_setIfInBounds_ne (by omega)]
    exact c
  · rw [Array.getElem?_setIfInBounds_ne (by omega)]
    exact d
theorem diff_few (a b : List UInt8) : (diffS a b).length ≤ 57 := by
  have ok := Pg.dwalk_ok a b 512
  unfold diffS Pg.spansOf
  generalize Pg.dwalk a b 512 = s at ok
  by_cases ht : s.2.2 = 0
  · rw [if_pos ht, (ok.none ht).1]
    simp
  · rw [if_neg ht, List.length_append]
    have h1 := (ok.cur ht).1
    have h2 := ok.le
    have h3 := ok.few
    simp
    omega
/-- The spans at which a page differs from bytes, in memory. -/
structure Spans (w0 w : World) (la lb : List UInt8) (pg : Int) (AD : Option Addr) (N CAP : Nat) (S : List SpE) : Prop where
  eq : S.map (fun e => (e.off, e.off + e.n)) = diffS la lb
  len : S.length = N
  few : N ≤ 57
  cap : N ≤ CAP
  row : N = 0 ∨ ∃ g, AD = some ⟨g, 0, none⟩ ∧ w0.heap.size ≤ g ∧ SpRow w g N pg S
  blk : ∀ e ∈ S, Blk w e.bo ((la.drop e.off).take e.n) ∧ Blk w e.bn ((lb.drop e.off).take e.n)
  new : ∀ e ∈ S, w0.heap.size ≤ e.bo ∧ w0.heap.size ≤ e.bn
set_option maxHeartbeats 1000000 in
set_option maxRecDepth 100000 in
theorem differing_any (w : World) (page : Nat) (g1 o1 c1 g2 o2 c2 : Nat) (la lb : List UInt8) (h1 : Pg.At512 w g1 o1 c1 la) (h2 : Pg.At512 w g2 o2 c2 lb) :
    Calls Tryz.prog 84 #[.int .i64 (page : Int), .slice (some ⟨g1, o1, none⟩) 512 c1, .slice (some ⟨g2, o2, none⟩) 512 c2] w fun e w' => ∃ AD N CAP, e = .returned (.slice AD N CAP) ∧ (∃ S, Spans w w' la lb (page : Int) AD N CAP S) ∧ Fr [] w w' := by
  go_enter Tryz.func84, Tryz.ntmps84
  go_wp2_with fail
  refine (Pg.diff_512r w g1 o1 c1 g2 o2 c2 la lb h1 h2).mono ?_
  rintro e w1 ⟨AD, N, CAP, S, rfl, hS, own, hb, f1', hri⟩
  have f1 := fr_pg f1'
  have hlen : S.length = N := by
    have := own.1
    rw [Pg.spv_length] at this
    omega
  have hnew : ∀ e ∈ S, w.heap.size ≤ e.bo ∧ w.heap.size ≤ e.bn := fun e he => ⟨(hri.2 e.bo (List.mem_flatMap.2 ⟨e, he, by simp⟩)).1, (hri.2 e.bn (List.mem_flatMap.2 ⟨e, he, by simp⟩)).1⟩
  have hN57 : N ≤ 57 := by
    have h3 := diff_few la lb
    rw [← hS, List.length_map] at h3
    omega
  have HB := hidI hb
  have HS := hidI hS
  have HL := hidI hlen
  have HNW := hidI hnew
  clear hS hb f1' hri hlen hnew
  rcases own.2 with ⟨ev, hn0⟩ | ⟨g, cap, cur, ev, hbase, hg, hnc, hcm, hcs, ht⟩
  · cases ev
    clear own hn0
    go_wp2_with fail
    go_loopw [14] (fun s14 wr => s14 = .int .i64 0 ∧ wr = w1) (fun _ _ => 0)
    case atStart => exact ⟨rfl, rfl⟩
    case round =>
      obtain ⟨rfl, hwr⟩ := hrel
      subst hwr
      go_wp2_with fail
      go_ret
      exact ⟨none, 0, 0, rfl, ⟨S, HS.out, HL.out, hN57, Nat.le_refl _, Or.inl rfl, HB.out, HNW.out⟩, f1⟩
  · cases ev
    have row0 : SpRow w1 g 0 (page : Int) S := by
      refine ⟨cur, hg, fun i e hi => ?_⟩
      have hil := (List.getElem?_eq_some_iff.1 hi).1
      have hie : S[i] = e := (List.getElem?_eq_some_iff.1 hi).2
      have key : ∀ c, c < 4 → cur[i * 4 + c]? = e.vals[c]? := by
        intro c hc
        have h1 := Pg.spv_at S i hil c hc
        rw [hie, ← ht, List.getElem?_take, if_pos (by have := HL.out; omega)] at h1
        simpa using h1
      exact ⟨by rw [if_neg (by omega)]; exact key 0 (by omega), key 1 (by omega), key 2 (by omega), key 3 (by omega)⟩
    have HBK : Hid (∀ wr, Fr [g] w1 wr → ∀ e ∈ S, Blk wr e.bo ((la.drop e.off).take e.n) ∧ Blk wr e.bn ((lb.drop e.off).take e.n)) := hidI (fun wr f e he => by
      have hx := HB.out e he
      have key : ∀ b (l : List UInt8), Pg.Blk w1 b l → Blk wr b l := fun b l hbl => by
        have hne : b ≠ g := fun e => by
          subst e
          have h3 : w1.heap[b]? = some (.cells (arr l) 5) := hbl
          rw [hg] at h3
          cases h3
        exact f.same (by simpa using hne) hbl
      exact ⟨key _ _ hx.1, key _ _ hx.2⟩)
    have HG := hidI hg
    clear own hg ht hcs hcm
    go_wp2_with fail
    go_loopw [14] (fun s14 wr => ∃ k : Nat, s14 = .int .i64 (k : Int) ∧ k ≤ N ∧ Hid (SpRow wr g k (page : Int) S) ∧ Fr [g] w1 wr) (fun i _ => N - (intOf i).toNat)
    case atStart => exact ⟨0, rfl, by omega, hidI row0, Fr.refl _ _⟩
    case round =>
      obtain ⟨k, rfl, hk, HR, FR⟩ := hrel
      by_cases hlt : k < N
      · have q1 : (k : Int) < (N : Int) := by omega
        have q0 : (0 : Int) ≤ (k : Int) := by omega
        obtain ⟨e, he⟩ : ∃ e, S[k]? = some e := ⟨_, List.getElem?_eq_getElem (by have := HL.out; omega)⟩
        obtain ⟨k0, _, _, _⟩ := HR.out.cells he
        have z0 : wr.frozen? ⟨g, k * 4, none⟩ = false := by
          obtain ⟨cur', hc', _⟩ := HR.out
          exact frozen_of_row wr g _ _ _ hc'
        clear he
        have R2 := HR.out.set
        have F2 := FR.setCell ⟨g, k * 4, none⟩ (.int .i64 (page : Int)) (fun _ => by simp)
        go_wp2_with fail
        refine ⟨⟨k + 1, by go_num, by omega, hidI R2, F2⟩, ?_⟩
        simp [intOf]
        omega
      · have q1 : ¬ (k : Int) < (N : Int) := by omega
        obtain rfl : k = N := by omega
        go_wp2_with fail
        go_ret
        exact ⟨_, _, _, rfl, ⟨S, HS.out, HL.out, hN57, hnc, Or.inr ⟨g, rfl, hbase, HR.out⟩, HBK.out _ FR, HNW.out⟩, f1.then FR (fun i hi e => by simp at e; omega)⟩
/-- How many bytes of log spans want: their records, and those of their undoing. -/
def sumN : List SpE → Int
  | [] => 0
  | e :: S => 94 + 3 * (e.n : Int) + sumN S
theorem sumN_app (S T : List SpE) : sumN (S ++ T) = sumN S + sumN T := by
  induction S with
  | nil => simp [sumN]
  | cons e S ih => simp [sumN, ih]; omega
theorem sumN_bound : ∀ (S : List SpE), (∀ e ∈ S, e.n ≤ 512) → 0 ≤ sumN S ∧ sumN S ≤ 2000 * (S.length : Int)
  | [], _ => by simp [sumN]
  | e :: S, h => by
    have h1 := sumN_bound S (fun x hx => h x (List.mem_cons_of_mem _ hx))
    have h2 := h e List.mem_cons_self
    simp only [sumN, List.length_cons]
    omega
theorem undoing_any (w : World) (p q : Int) (a1 a2 : Option Addr) (n1 c1 n2 c2 : Nat) (h : n2 ≤ 1000000) : Calls Tryz.prog 155 #[.agg #[.int .i64 p, .int .i64 q, .slice a1 n1 c1, .slice a2 n2 c2]] w fun e w' => e = .returned (.int .i64 (51 + (n2 : Int))) ∧ Fr [] w w' := by
  have e1 : IntKind.i64.wrap (51 + (n2 : Int)) = 51 + (n2 : Int) := wrapI _ (by omega) (by omega)
  go_enter Tryz.func155, Tryz.ntmps155
  go_wp2
  go_ret
  exact ⟨by go_num, (Fr.refl [] w).alloc _⟩
set_option maxHeartbeats 2000000 in
set_option maxRecDepth 100000 in
theorem needs_any {w : World} {dp : Nat} {t : Dl} (hd : DlAt w dp t) (hk0 : 0 ≤ t.kept) (hk1 : t.kept ≤ 1000000) {w0 : World} {la lb : List UInt8} {pg : Int} {AD : Option Addr} {N CAP : Nat} {S : List SpE} (hS : Spans w0 w la lb pg AD N CAP S) (hn : ∀ e ∈ S, e.n ≤ 512) :
    Calls Tryz.prog 85 #[.pointer (some ⟨dp, 0, none⟩), .slice AD N CAP] w fun e w' => e = .returned (.int .i64 (t.kept + 35 + sumN S)) ∧ Fr [] w w' := by
  have d6 := hd.c6
  have HS := hidI hS
  have HN := hidI hn
  have hN := hS.few
  clear hS hn hd
  go_enter Tryz.func85, Tryz.ntmps85
  go_wp2_with fail
  go_loopw [5, 15] (fun s5 s15 wr => ∃ k : Nat, ∃ M : Int, s5 = .int .i64 M ∧ M = t.kept + 35 + sumN (S.take k) ∧ s15 = .int .i64 (k : Int) ∧ k ≤ N ∧ Fr [] w wr) (fun _ i _ => N - (intOf i).toNat)
  case atStart => exact ⟨0, t.kept + 35, by go_num, by simp [sumN], rfl, by omega, Fr.refl _ _⟩
  case round =>
    obtain ⟨k, M, rfl, hM, rfl, hk, FR⟩ := hrel
    have HM := hidI hM
    have hM0 : 0 ≤ M ∧ M ≤ 1200000 := by
      have h1 := sumN_bound (S.take k) (fun e he => HN.out e (List.mem_of_mem_take he))
      have h2 : (S.take k).length ≤ 57 := by rw [List.length_take, HS.out.len]; omega
      rw [hM]
      omega
    clear hM
    by_cases hlt : k < N
    · have q1 : (k : Int) < (N : Int) := by omega
      have q0 : (0 : Int) ≤ (k : Int) := by omega
      obtain ⟨e, he⟩ : ∃ e, S[k]? = some e := ⟨_, List.getElem?_eq_getElem (by have := HS.out.len; omega)⟩
      obtain ⟨g, hAD, hg0, hrow⟩ : ∃ g, AD = some ⟨g, 0, none⟩ ∧ w0.heap.size ≤ g ∧ SpRow w g N pg S := HS.out.row.resolve_left (by omega)
      subst hAD
      obtain ⟨k0, k1, k2, k3⟩ := (hrow.kept FR (by simp)).cells he
      rw [if_pos hlt] at k0
      have hen : e.n ≤ 512 := HN.out e (List.mem_of_getElem? he)
      have HE := hidI he
      clear he hrow
      have fa : Fr [] wr (wr.alloc (.cells #[.int .i64 pg, .int .i64 (e.off : Int), .slice (some ⟨e.bo, 0, none⟩) e.n e.n, .slice (some ⟨e.bn, 0, none⟩) e.n e.n] 146)) := (Fr.refl [] wr).alloc _
      have ha := heap_alloc_new wr (.cells #[.int .i64 pg, .int .i64 (e.off : Int), .slice (some ⟨e.bo, 0, none⟩) e.n e.n, .slice (some ⟨e.bn, 0, none⟩) e.n e.n] 146)
      go_wp2_with fail
      generalize (wr.alloc (.cells #[.int .i64 pg, .int .i64 (e.off : Int), .slice (some ⟨e.bo, 0, none⟩) e.n e.n, .slice (some ⟨e.bn, 0, none⟩) e.n e.n] 146)) = w5 at fa ha ⊢
      obtain ⟨Z, HZ⟩ : ∃ Z, Hid (wr.heap.size = Z) := ⟨_, rfl⟩
      rw [HZ.out] at ha ⊢
      have b0 := cell_of_row w5 Z 0 _ _ _ ha
      have b1 := cell_of_row w5 Z 1 _ _ _ ha
      have b2 := cell_of_row w5 Z 2 _ _ _ ha
      have b3 := cell_of_row w5 Z 3 _ _ _ ha
      have e43 : IntKind.i64.wrap (2 * (e.n : Int)) = 2 * (e.n : Int) := wrapI _ (by omega) (by omega)
      have e44 : IntKind.i64.wrap (43 + 2 * (e.n : Int)) = 43 + 2 * (e.n : Int) := wrapI _ (by omega) (by omega)
      have e45 : IntKind.i64.wrap (43 + 2 * (e.n : Int) + (51 + (e.n : Int))) = 94 + 3 * (e.n : Int) := by rw [wrapI _ (by omega) (by omega)]; omega
      have e46 : IntKind.i64.wrap (M + (94 + 3 * (e.n : Int))) = M + (94 + 3 * (e.n : Int)) := wrapI _ (by omega) (by omega)
      go_region_law ((go_simp; go_at_call 155; refine (undoing_any _ _ _ _ _ _ _ _ _ (by omega)).mono ?_; rintro e6 w6 ⟨rfl, f6⟩; have f56 : Fr [] w5 w6 := (Fr.refl [] w5).drew.trans f6; have g3 := cell_of_row w6 Z 3 _ _ _ (f56.same (by simp) ha)))
      all_goals
        go_wp2_with fail
        refine ⟨⟨k + 1, M + (94 + 3 * (e.n : Int)), by go_num, ?_, by go_num, by omega, ?_⟩, ?_⟩
        · rw [HM.out, List.take_add_one, HE.out, sumN_app]
          simp [sumN]
          omega
        · exact (FR.trans fa).trans f56
        · simp [intOf]
          omega
    · have q1 : ¬ (k : Int) < (N : Int) := by omega
      obtain rfl : k = N := by omega
      go_wp2_with fail
      go_ret
      refine ⟨?_, FR⟩
      rw [HM.out, List.take_of_length_le (by have := HS.out.len; omega)]
      rfl
end Go.Proofs.YthajipigppndgaaGreat

namespace Go.Proofs.YthajipigppndgaaGreat
open Go.RowKit Go.Maps

def chRec (pg off : Nat) (old new : List UInt8) : Rec := ⟨0, 0, 1, 0, 0, 0, (pg : Int), (off : Int), old, new⟩
/-- What lets a book append: its numbers are places. -/
structure TxOk (b : Bk) : Prop where
  num : placeB b.t.num = true
  last : placeB b.t.last = true
  t0 : 1 ≤ b.x.y.T
  t1 : b.x.y.T ≤ 2147483647
theorem chRec_right {b : Bk} (h : TxOk b) (hE : b.x.y.E ≤ 400000) {pg off n : Nat} {old new : List UInt8} (h1 : old.length = n) (h2 : new.length = n) (h0 : 0 < n) (hf : off + n ≤ 512) (hp : pg < 65536) : rightB { txRec b.t (chRec pg off old new) with lsn := (b.x.y.E : Int) + 1, turn := (b.x.y.T : Int) } = true := by
  have a1 := h.num
  have a2 := h.last
  have a3 := h.t0
  have a4 := h.t1
  have e1 : headB { txRec b.t (chRec pg off old new) with lsn := (b.x.y.E : Int) + 1, turn := (b.x.y.T : Int) } = true := by
    simp only [headB, txRec, chRec, a1, a2, Bool.and_true, Bool.and_eq_true, decide_eq_true_eq]
    omega
  have e2 : kindB { txRec b.t (chRec pg off old new) with lsn := (b.x.y.E : Int) + 1, turn := (b.x.y.T : Int) } = true := by
    show (decide ((0 : Int) = 0) && (fitsB (pg : Int) (off : Int) new.length && decide (old.length = new.length))) = true
    have g1 : (0 : Int) ≤ (pg : Int) := by omega
    have g2 : (pg : Int) < 65536 := by omega
    have g3 : (0 : Int) ≤ (off : Int) := by omega
    have g4 : (off : Int) ≤ 512 - (n : Int) := by omega
    rw [h1, h2]
    unfold fitsB
    rw [decide_eq_true g1, decide_eq_true g2, decide_eq_true g3, decide_eq_true h0, decide_eq_true g4, decide_eq_true (rfl : n = n)]
    rfl
  unfold rightB
  rw [e1, e2]
  rfl
theorem chRec_size {b : Bk} {pg off n : Nat} {old new : List UInt8} (h1 : old.length = n) (h2 : new.length = n) (h0 : 0 < n) : (encL { txRec b.t (chRec pg off old new) with lsn := (b.x.y.E : Int) + 1, turn := (b.x.y.T : Int) }).length = 43 + 2 * n := by
  have hn : ¬ n = 0 := by omega
  rw [encL_length]
  simp only [bodyL, b4L, b3L, txRec, chRec, h1, h2, if_neg hn, List.length_append, beK_length]
  simp [beK_length]
  omega
set_option maxHeartbeats 2000000 in
set_option maxRecDepth 100000 in
theorem logChange_any {w : World} {b : Bk} (h : BkAt w b) (ok : TxOk b) {pg off bo bn n : Nat} {old new : List UInt8} (ho : Blk w bo old) (hn : Blk w bn new) (h1 : old.length = n) (h2 : new.length = n) (h0 : 0 < n) (hf : off + n ≤ 512) (hp : pg < 65536) (hroom : ((43 + 2 * n : Nat) : Int) ≤ 408 * (b.x.y.count - 1) - ((b.x.y.E : Int) - (b.x.y.A : Int))) (hE : b.x.y.E + (43 + 2 * n) ≤ 400000) (hc0 : 0 ≤ b.t.chg) (hc1 : b.t.chg ≤ 1000000) (hk0 : 0 ≤ b.t.kept) (hk1 : b.t.kept ≤ 1000000) :
    Calls Tryz.prog 157 #[.pointer (some ⟨b.bp, 0, none⟩), .agg #[.int .i64 (pg : Int), .int .i64 (off : Int), .slice (some ⟨bo, 0, none⟩) n n, .slice (some ⟨bn, 0, none⟩) n n]] w fun e w' => e = .returned (.int .i64 0) ∧ ∃ y', Appd b.x.y y' (43 + 2 * n) (txRec b.t (chRec pg off old new)) ∧ BStep w w' b { b with x := { b.x with y := y' }, t := { b.t with chg := b.t.chg + 1, last := (b.x.y.E : Int) + 1, next := (b.x.y.E : Int) + 1, kept := b.t.kept + (51 + (n : Int)) } } := by
  have hEE := h.po.lo.hE
  have HAD : Hid (∀ w', Fr [] w w' → Calls Tryz.prog 98 #[.pointer (some ⟨b.bp, 0, none⟩), .agg #[.int .i64 0, .int .i64 0, .int .u8 1, .int .i64 0, .int .i64 0, .int .i64 0, .int .i64 (pg : Int), .int .i64 (off : Int), .slice (some ⟨bo, 0, none⟩) n n, .slice (some ⟨bn, 0, none⟩) n n]] w' fun e w'' => e = .returned (.int .i64 0) ∧ ∃ y', Appd b.x.y y' (43 + 2 * n) (txRec b.t (chRec pg off old new)) ∧ BStep w' w'' b { b with x := { b.x with y := y' }, t := { b.t with last := (b.x.y.E : Int) + 1 } }) := hidI (fun w' f => by
    have hx := badd_any (h.quiet f) (chRec pg off old new) ⟨some ⟨bo, 0, none⟩, n, some ⟨bn, 0, none⟩, n⟩ ⟨(ho.kept f (by simp)).bytes, (hn.kept f (by simp)).bytes, (fun e => nomatch e), (fun e => nomatch e)⟩ (chRec_right ok hEE h1 h2 h0 hf hp) (chRec_size h1 h2 h0) hroom hE
    unfold recV at hx
    dsimp only [chRec] at hx
    rw [h1, h2] at hx
    exact hx)
  have fa : Fr [] w (w.alloc (.cells #[.int .i64 (pg : Int), .int .i64 (off : Int), .slice (some ⟨bo, 0, none⟩) n n, .slice (some ⟨bn, 0, none⟩) n n] 146)) := (Fr.refl [] w).alloc _
  have ha := heap_alloc_new w (.cells #[.int .i64 (pg : Int), .int .i64 (off : Int), .slice (some ⟨bo, 0, none⟩) n n, .slice (some ⟨bn, 0, none⟩) n n] 146)
  have HH := hidI h
  have hlt := hidI h.lt
  clear h ok ho hn hroom h1 h2
  obtain ⟨w1, hw1⟩ : ∃ w1, w.alloc (.cells #[.int .i64 (pg : Int), .int .i64 (off : Int), .slice (some ⟨bo, 0, none⟩) n n, .slice (some ⟨bn, 0, none⟩) n n] 146) = w1 := ⟨_, rfl⟩
  rw [hw1] at fa ha
  have c3 : w1.cell? ⟨b.bp, 3, none⟩ = some (.pointer (some ⟨b.dp, 0, none⟩)) := (HH.out.quiet fa).box.c3
  have b0 := cell_of_row w1 w.heap.size 0 _ _ _ ha
  have b1 := cell_of_row w1 w.heap.size 1 _ _ _ ha
  have b2 := cell_of_row w1 w.heap.size 2 _ _ _ ha
  have b3 := cell_of_row w1 w.heap.size 3 _ _ _ ha
  go_enter Tryz.func157, Tryz.ntmps157
  go_wp2_with fail
  refine (HAD.out _ fa).mono ?_
  rintro e w2 ⟨rfl, y', A2, B2⟩
  have HB2 := hidI B2
  have hns : w.heap.size ∉ b.dp :: b.x.own := fun e => by
    have h3 := hlt.out w.heap.size (by rcases List.mem_cons.1 e with e | e <;> simp [e])
    omega
  have ha2 := B2.fr.same hns ha
  have d2 := B2.at'.dl.c2
  have z2 := B2.at'.dl.fz 2
  have D2 := B2.at'.dl.s2 (b.t.chg + 1)
  have S2 := hidI (BStep.deal B2.at' D2 (fr_set _ _ _ _))
  clear B2 b0 b1 b2 b3 c3
  have ec : IntKind.i64.wrap (b.t.chg + 1) = b.t.chg + 1 := wrapI _ (by omega) (by omega)
  obtain ⟨w3, hw3⟩ : ∃ w3, w2.setCell ⟨b.dp, 2, none⟩ (.int .i64 (b.t.chg + 1)) = w3 := ⟨_, rfl⟩
  have S3 := S2
  rw [hw3] at S3
  have d3 := S3.out.at'.dl.c3
  have d4 := S3.out.at'.dl.c4
  have z4 := S3.out.at'.dl.fz 4
  have D4 := S3.out.at'.dl.s4 ((b.x.y.E : Int) + 1)
  have S4 := hidI (BStep.deal S3.out.at' D4 (fr_set _ _ _ _))
  dsimp only at d2 d3 d4
  go_wp2_with fail
  obtain ⟨w4, hw4⟩ : ∃ w4, w3.setCell ⟨b.dp, 4, none⟩ (.int .i64 ((b.x.y.E : Int) + 1)) = w4 := ⟨_, rfl⟩
  have S5 := S4
  rw [hw4] at S5 ⊢
  have f24 : Fr [b.dp] w2 w4 := by
    rw [← hw4, ← hw3]
    exact (fr_set _ _ _ _).trans (fr_set _ _ _ _)
  have ha4 := f24.same (by simp only [List.mem_singleton]; exact fun e => hns (by rw [e]; exact List.mem_cons_self)) ha2
  obtain ⟨Z, HZ⟩ : ∃ Z, Hid (w.heap.size = Z) := ⟨_, rfl⟩
  have hbl : b.bp < w.heap.size := hlt.out _ (by simp)
  have hdl : b.dp < w.heap.size := hlt.out _ (by simp)
  rw [HZ.out] at ha4 hbl hdl ⊢
  have b0 := cell_of_row w4 Z 0 _ _ _ ha4
  have b1 := cell_of_row w4 Z 1 _ _ _ ha4
  have b2 := cell_of_row w4 Z 2 _ _ _ ha4
  have b3 := cell_of_row w4 Z 3 _ _ _ ha4
  have d6 := S5.out.at'.dl.c6
  have z6 := S5.out.at'.dl.fz 6
  dsimp only at d6
  have ek : IntKind.i64.wrap (b.t.kept + (51 + (n : Int))) = b.t.kept + (51 + (n : Int)) := wrapI _ (by omega) (by omega)
  clear d2 d3 d4 z2 z4
  go_region_law ((go_simp; go_at_call 155; refine (undoing_any _ _ _ _ _ _ _ _ _ (by omega)).mono ?_; rintro e6 w6 ⟨rfl, f6⟩; have f46 : Fr [] w4 w6 := (Fr.refl [] w4).drew.trans f6; have B6 := S5.out.at'.quiet f46; have g6 := B6.dl.c6; have y6 := B6.dl.fz 6; have D6 := B6.dl.s6 (b.t.kept + (51 + (n : Int))); have HB6 := hidI B6; clear B6; dsimp only at g6))
  all_goals
    go_wp2_with fail
    go_ret
    refine ⟨rfl, y', A2, ?_⟩
    have st1 := BStep.quiet HH.out fa
    have st2 := (st1.trans HB2.out).trans ((hw3 ▸ S2.out).trans S5.out)
    exact (st2.trans (BStep.quiet S5.out.at' f46)).trans (BStep.deal HB6.out D6 (fr_set _ _ _ _))
end Go.Proofs.YthajipigppndgaaGreat


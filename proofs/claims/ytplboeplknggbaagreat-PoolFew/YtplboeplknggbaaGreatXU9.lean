/-
  Two rows of bytes that lie apart.
-/
import Derived.Test.YtplboeplknggbaaGreatXU8
import Derived.Test.YtplboeplknggbaaGreatXAb1
namespace Go.Proofs.YtplboeplknggbaaGreat
open Go.RowKit Go.Maps

theorem i64_bounds {x : Int} (h : (Lit.int .i64 x).wf = true) : -9223372036854775808 ≤ x ∧ x ≤ 9223372036854775807 := by
  simp [Lit.wf, show IntKind.i64.min = -9223372036854775808 from rfl, show IntKind.i64.max = 9223372036854775807 from rfl] at h
  exact h
theorem tmod_neg {x n : Int} (h1 : 1 ≤ n) (h : x.tmod n < 0) : x.tmod n + n = x % n := by
  have e := Int.tmod_eq_emod (a := x) (b := n)
  have h2 := Int.emod_nonneg x (show n ≠ 0 by omega)
  split at e <;> omega
theorem tmod_pos {x n : Int} (h1 : 1 ≤ n) (h : 0 ≤ x.tmod n) : x.tmod n = x % n := by
  have e := Int.tmod_eq_emod (a := x) (b := n)
  have h2 := Int.emod_lt_of_pos x (show 0 < n by omega)
  split at e <;> omega
theorem wrap64_small {v : Int} (h0 : -9223372036854775808 ≤ v) (h1 : v ≤ 9223372036854775807) : wrap64 v = v := by
  unfold wrap64
  omega
set_option maxHeartbeats 400000 in
theorem pick_any (w : World) (x n : Int) (hx : (Lit.int .i64 x).wf = true) (h1 : 1 ≤ n) (h2 : n ≤ 1000000) :
    Calls Tryz.prog 23 #[.int .i64 x, .int .i64 n] w fun e w' => e = .returned (.int .i64 (x % n)) ∧ w' = w := by
  obtain ⟨b1, b2⟩ := i64_bounds hx
  have hn : ¬ n < 1 := by omega
  have g1 := Int.emod_nonneg x (show n ≠ 0 by omega)
  have g2 := Int.emod_lt_of_pos x (show 0 < n by omega)
  by_cases hneg : x.tmod n < 0
  · have e1 : Hid (wrap64 (x.tmod n + n) = x % n) := by rw [tmod_neg h1 hneg]; exact wrap64_small (by omega) (by omega)
    clear g1 g2
    go_enter Tryz.func23, Tryz.ntmps23
    go_wp2
    go_ret
    exact ⟨ret_int e1.out, rfl⟩
  · have e1 : Hid (x.tmod n = x % n) := tmod_pos h1 (by omega)
    clear g1 g2
    go_enter Tryz.func23, Tryz.ntmps23
    go_wp2
    go_ret
    exact ⟨ret_int e1.out, rfl⟩
/-- Two rigs that lie apart, both new since w. -/
structure Duo (w wr : World) (ra : Nat) (xa : Po) (rb : Nat) (xb : Po) : Prop where
  a : RigAt wr ra xa
  b : RigAt wr rb xb
  fr : Fr [] w wr
  na : ∀ k ∈ ra :: xa.pp :: xa.own, w.heap.size ≤ k
  nb : ∀ k ∈ rb :: xb.pp :: xb.own, w.heap.size ≤ k
  dis : ∀ k ∈ ra :: xa.pp :: xa.own, k ∉ rb :: xb.pp :: xb.own
theorem Duo.swap {w wr : World} {ra rb : Nat} {xa xb : Po} (h : Duo w wr ra xa rb xb) : Duo w wr rb xb ra xa := ⟨h.b, h.a, h.fr, h.nb, h.na, fun k h1 h2 => h.dis k h2 h1⟩
theorem RigAt.all_lt {w : World} {rg : Nat} {x : Po} (h : RigAt w rg x) : ∀ k ∈ rg :: x.pp :: x.own, k < w.heap.size := fun k hk => by
  rcases List.mem_cons.1 hk with rfl | hk
  · exact h.lt
  · exact h.po.lt k hk
theorem Duo.step {w wr w1 : World} {ra rb : Nat} {xa xa' xb : Po} (h : Duo w wr ra xa rb xb) (st : Step wr w1 xa xa') (hd : xa'.y.d = xa.y.d) (hp : xa'.y.p = xa.y.p) (hpp : xa'.pp = xa.pp) : Duo w w1 ra xa' rb xb := by
  obtain ⟨h1, h2⟩ := aw_new h.na h.fr st hpp
  have hb : ∀ k ∈ rb :: xb.pp :: xb.own, k ∉ xa.own := fun k hk e => h.dis k (by simp [e]) hk
  refine ⟨h.a.step st hd hp hpp, h.b.kept st.fr (hb _ List.mem_cons_self) (fun k hk => hb k (List.mem_cons_of_mem _ hk)), h2, h1, h.nb, fun k hk hk2 => ?_⟩
  rw [hpp] at hk
  simp only [List.mem_cons] at hk
  rcases hk with e | e | e
  · exact h.dis k (by simp [e]) hk2
  · exact h.dis k (by simp [e]) hk2
  · rcases st.ow k e with h3 | h3
    · exact h.dis k (by simp [h3]) hk2
    · have := h.b.all_lt k hk2
      omega
theorem Duo.quiet {w wr w1 : World} {ra rb : Nat} {xa xb : Po} (h : Duo w wr ra xa rb xb) (f : Fr [] wr w1) : Duo w w1 ra xa rb xb := h.step (Step.quiet h.a.po f) rfl rfl rfl
/-- What holds of each of them while the law goes on. -/
structure Rf (x : Po) (mo i : Nat) : Prop where
  pages : x.pages = 30
  most : x.most = mo
  m8 : 8 ≤ mo
  count : x.y.count = 12
  T : x.y.T = 1
  E : x.y.E ≤ 1067 * i
  hd : ∀ f ∈ x.fs, f.hd = 0
  le : x.fs.length ≤ mo
/-- All pages are the same in both. -/
def Both (xa xb : Po) : Prop := ∀ q, q < 30 → ∃ l, Val xa q l ∧ Val xb q l
theorem Rf.read {wr w1 : World} {rg : Nat} {x x' : Po} {most i k g : Nat} {f : Fm} (h : Rf x most i) (hx : PoAt wr x) (r : RRead wr w1 rg x x' k g f) : Rf x' most i ∧ Alike x x' ∧ Val x k f.l := by
  obtain ⟨al, hv, _⟩ := r.fnd.alike hx.nod
  have kk := r.fnd.kin
  refine ⟨⟨al.2.1.trans h.pages, al.2.2.1.trans h.most, h.m8, kk.count.trans h.count, kk.T.trans h.T, by rw [kk.E]; exact h.E, (r.fnd.hd0 h.hd).1, ?_⟩, al, hv⟩
  have h1 := r.at'.po.hl
  rw [al.2.2.1, h.most] at h1
  exact h1
theorem Rf.next {x : Po} {most i j : Nat} (h : Rf x most i) (hij : i ≤ j) : Rf x most j := { h with E := Nat.le_trans h.E (by omega) }
theorem Rf.chg {wr w1 w2 : World} {rg : Nat} {x x'' : Po} {most i page off : Nat} {l : List UInt8} {y' : Lo} {lsn : Nat} {fit : Bool} (h : Rf x most i) (ra : RApp wr w1 rg x fit lsn y') (r2 : RigAt w2 rg x'') (hc : Chg { x with y := y' } x'' page off l (lsn : Int)) : Rf x'' most (i + 1) := by
  have hv := hc.val ra.at'.po.nod r2.po.nod
  have k := hc.kin
  refine ⟨hv.2.1.trans h.pages, hv.2.2.1.trans h.most, h.m8, k.count.trans (ra.gr.count.trans h.count), k.T.trans (ra.gr.T.trans h.T), ?_, hc.hd0 h.hd, ?_⟩
  · have e1 : x''.y.E = y'.E := k.E
    have := ra.gr.E2
    have := h.E
    omega
  · have h1 := r2.po.hl
    rw [hv.2.2.1] at h1
    have h2 : ({ x with y := y' } : Po).most = x.most := rfl
    rw [h2, h.most] at h1
    exact h1
theorem Both.alike {xa xa' xb : Po} (h : Both xa xb) (al : Alike xa xa') (hp : xa.pages = 30) : Both xa' xb := fun q hq => by
  obtain ⟨l, h1, h2⟩ := h q hq
  exact ⟨l, al.2.2.2.2.2.2 q (by rw [hp]; exact hq) l h1, h2⟩
theorem Both.swap {xa xb : Po} (h : Both xa xb) : Both xb xa := fun q hq => by
  obtain ⟨l, h1, h2⟩ := h q hq
  exact ⟨l, h2, h1⟩
/-- The values of both behind the same Change. -/
theorem Both.chg {xa xa'' xb xb'' : Po} {page off : Nat} {l : List UInt8} {la lb : Int} {ya yb : Lo} (h : Both xa xb) (hpa : xa.pages = 30) (hpb : xb.pages = 30) (ala : Alike xa { xa with y := ya }) (alb : Alike xb { xb with y := yb })
    (ca : Chg { xa with y := ya } xa'' page off l la) (cb : Chg { xb with y := yb } xb'' page off l lb) (na : ((ids xa.fs).map (·.1)).Nodup) (na2 : ((ids xa''.fs).map (·.1)).Nodup) (nb : ((ids xb.fs).map (·.1)).Nodup) (nb2 : ((ids xb''.fs).map (·.1)).Nodup) : Both xa'' xb'' := by
  intro q hq
  obtain ⟨m, h1, h2⟩ := h q hq
  have va := ca.val na na2
  have vb := cb.val nb nb2
  have k1 := ala.2.2.2.2.2.2 q (by rw [hpa]; exact hq) m h1
  have k2 := alb.2.2.2.2.2.2 q (by rw [hpb]; exact hq) m h2
  by_cases e : q = page
  · subst e
    exact ⟨_, va.2.2.2.2.2.2.2 m k1, vb.2.2.2.2.2.2.2 m k2⟩
  · exact ⟨m, va.2.2.2.2.2.2.1 q (by show q < xa.pages; rw [hpa]; exact hq) e m k1, vb.2.2.2.2.2.2.1 q (by show q < xb.pages; rw [hpb]; exact hq) e m k2⟩
theorem pgD0 (start q : Nat) (d bs bo : Nat) (nb : Int) (p : Nat) (count : Int) : pgD start (lo0 d bs bo nb p count) q = Dv.zeros := rfl
theorem po0_val (d bs bo : Nat) (nb : Int) (p pp rp mp start pages most : Nat) (count : Int) (q : Nat) : Val (po0 d bs bo nb p pp rp mp start pages most count) q Dv.zeros := Or.inr ⟨fun e => (nomatch e), rfl⟩
end Go.Proofs.YtplboeplknggbaaGreat

namespace Go.Proofs.YtplboeplknggbaaGreat
open Go.RowKit Go.Maps

theorem Step.out {w w' : World} {x x' : Po} (st : Step w w' x x') {k : Nat} (hk : k < w.heap.size) (h : k ∉ x.own) : k ∉ x'.own := fun e => (st.ow k e).elim h (fun h1 => by omega)
theorem duo_app1 {w wr : World} {ra rb : Nat} {xa xb : Po} (h : Duo w wr ra xa rb xb) {mo i : Nat} (hf : Rf xa mo i) (hi : i ≤ 80) (pg o : Nat) (l : List UInt8) (ad : Option Addr) (c : Nat) (hb : BytesAt wr ad l) (hbn : ad = none → l.length = 0 ∧ c = 0) (hbw : ∀ b o, ad = some ⟨b, o, none⟩ → b < w.heap.size) (hl : l.length ≤ 2000) :
    Calls Tryz.prog 30 #[.pointer (some ⟨ra, 0, none⟩), .agg #[.int .i64 (pg : Int), .int .i64 (o : Int), .slice none 0 0, .slice ad l.length c]] wr fun e w' => ∃ lsn : Nat, e = .returned (.int .i64 (lsn : Int)) ∧ ∃ y', RApp wr w' ra xa (fitsB (pg : Int) (o : Int) l.length) lsn y' ∧ Duo w w' ra { xa with y := y' } rb xb := by
  have hE := hf.E
  refine (rig_app1 h.a (pg : Int) (o : Int) l none 0 0 ad c hb hbn (fun b o e hm => ?_) hl (by omega) (by rw [hf.T]; omega) hf.count).mono ?_
  · have h1 := hbw b o e
    have h2 := h.na b (by simp only [Po.own, List.mem_cons, List.mem_append]; exact Or.inr (Or.inr (Or.inr (Or.inr hm))))
    omega
  · rintro e w' ⟨lsn, rfl, y', r⟩
    exact ⟨lsn, rfl, y', r, h.step r.st r.gr.d r.gr.p rfl⟩
theorem duo_change {w wr : World} {ra rb : Nat} {xa xb : Po} (h : Duo w wr ra xa rb xb) (hp : xa.pages = 30) (hm : 8 ≤ xa.most) (hd : ∀ f ∈ xa.fs, f.hd = 0) (pg o : Nat) (hpg : pg < 30) (l : List UInt8) (ad : Option Addr) (c : Nat) (hl : 0 < l.length) (hfit : o + l.length ≤ 512) (hb : BytesAt wr ad l) (hbw : ∀ b o, ad = some ⟨b, o, none⟩ → b < w.heap.size) (lsn : Nat) (hl1 : 1 ≤ lsn) (hl2 : lsn ≤ xa.y.E) :
    Calls Tryz.prog 15 #[.pointer (some ⟨xa.pp, 0, none⟩), .agg #[.int .i64 (pg : Int), .int .i64 (o : Int), .slice none 0 0, .slice ad l.length c], .int .i64 (lsn : Int)] wr fun e w' => e = .returned (.int .i64 0) ∧ ∃ x'', Step wr w' xa x'' ∧ Chg xa x'' pg o l (lsn : Int) ∧ Duo w w' ra x'' rb xb ∧ x''.pp = xa.pp := by
  refine (rig_change h.a (page := pg) (by rw [hp]; exact hpg) o none 0 0 ad c l hl hfit hb (fun b o e hm => ?_) (lsn : Int) (by omega) (by omega)).mono ?_
  · have h1 := hbw b o e
    have h2 := h.na b (by simp [hm])
    omega
  · rintro e w' (⟨_, hbz, _⟩ | ⟨rfl, x'', r, st, hc⟩)
    · exact absurd hbz (fun hbz => hbz.no hd hm)
    · have hv := hc.val h.a.po.nod r.po.nod
      have k := hc.kin
      exact ⟨rfl, x'', st, hc, h.step st k.d k.p hv.2.2.2.1, hv.2.2.2.1⟩
theorem duo_read {w wr : World} {ra rb : Nat} {xa xb : Po} (h : Duo w wr ra xa rb xb) {mo i : Nat} (hf : Rf xa mo i) (pg : Nat) (hpg : pg < 30) :
    Calls Tryz.prog 14 #[.pointer (some ⟨xa.pp, 0, none⟩), .int .i64 (pg : Int)] wr fun e w' => ∃ g : Nat, e = .returned (.tuple #[.slice (some ⟨g, 0, none⟩) 512 512, .int .i64 0]) ∧ ∃ l x', Blk w' g l ∧ Val xa pg l ∧ wr.heap.size ≤ g ∧ Step wr w' xa x' ∧ Rf x' mo i ∧ Alike xa x' ∧ Duo w w' ra x' rb xb ∧ g ∉ x'.own := by
  refine (rig_read h.a (page := pg) (by rw [hf.pages]; exact hpg)).mono ?_
  rintro e w' (⟨_, hbz, _⟩ | ⟨g, rfl, f, x', r⟩)
  · exact absurd hbz (fun hbz => hbz.no hf.hd (by rw [hf.most]; exact hf.m8))
  · obtain ⟨h1, h2, h3⟩ := hf.read h.a.po r
    have k := r.fnd.kin
    exact ⟨g, rfl, f.l, x', r.row, h3, r.new, r.st, h1, h2, h.step r.st k.d k.p h2.2.2.2.1, r.ne⟩
end Go.Proofs.YtplboeplknggbaaGreat

namespace Go.Proofs.YtplboeplknggbaaGreat
open Go.RowKit Go.Maps

theorem Blk.own {w : World} {g : Nat} {l : List UInt8} (h : Blk w g l) (hm : l.length ≤ 1000000) : w.ownsRow 0 5 1 (.slice (some ⟨g, 0, none⟩) l.length l.length) l.length (arr l).toList :=
  ⟨by simp [arr], Or.inr ⟨g, l.length, arr l, rfl, Nat.zero_le _, h, Nat.le_refl _, by unfold maxLen; omega, by simp [arr_size], List.take_of_length_le (by simp [arr])⟩⟩
theorem ownB_kept {w w' : World} {v : Value} {n : Nat} {xs : List Value} (h : w.ownsRow 0 5 1 v n xs) (k : Fr [] w w') : w'.ownsRow 0 5 1 v n xs := by
  obtain ⟨h1, h2⟩ := h
  refine ⟨h1, ?_⟩
  rcases h2 with hn | ⟨g, cap, cur, rfl, hb, hg, r⟩
  · exact Or.inl hn
  · exact Or.inr ⟨g, cap, cur, rfl, hb, k.same (by simp) hg, r⟩
theorem fr_ab {L : List Nat} {a b : World} (h : Ab.Fr L a b) : Fr L a b := ⟨h.os, h.tape, h.output, h.size, h.block⟩

/-- A list of bytes: where it lies, its length, its room. -/
abbrev Spot := Option Addr × Nat × Nat
def Spot.val (s : Spot) : Value := .slice s.1 s.2.1 s.2.2
def blocksOf (vs : List Spot) : List Nat := vs.flatMap fun s => s.val.ownBlock.toList
theorem blocks_mem {vs : List Spot} {g : Nat} : g ∈ blocksOf vs ↔ ∃ s ∈ vs, s.val.ownBlock = some g := by
  simp [blocksOf]

/-- Lists of bytes that lie apart, in a new table. -/
theorem lists_of {w : World} (vs : List Spot) (tab : Array Value) (htab : tab = (vs.map Spot.val).toArray) (hK : vs.length ≤ 250) (hn : ∀ s ∈ vs, s.2.1 ≤ 100000) (hown : ∀ s ∈ vs, ∃ xs : List Value, xs.length = s.2.1 ∧ w.ownsRow 0 5 1 s.val s.2.1 xs)
    (hap : vs.Pairwise fun s t => ∀ g, s.val.ownBlock = some g → t.val.ownBlock ≠ some g) :
    Ab.Lists (w.alloc (.cells tab 37)) (blocksOf vs) vs.length w.heap.size (fun j => (vs.getD j (none, 0, 0)).1) (fun j => (vs.getD j (none, 0, 0)).2.1) (fun j => (vs.getD j (none, 0, 0)).2.2) := by
  subst htab
  have hget : ∀ j, (hj : j < vs.length) → vs.getD j (none, 0, 0) = vs[j] := fun j hj => by simp [hj]
  have hlt : ∀ g ∈ blocksOf vs, g < w.heap.size := by
    intro g hg
    obtain ⟨s, hs, hb⟩ := blocks_mem.1 hg
    obtain ⟨xs, _, ho⟩ := hown s hs
    rcases ho.2 with ⟨e, _⟩ | ⟨g', _, cur, e, _, hh, _⟩
    · rw [e] at hb; cases hb
    · rw [e] at hb
      have : g' = g := by simpa [Value.ownBlock] using hb
      subst this
      exact (Array.getElem?_eq_some_iff.1 hh).1
  refine ⟨hK, ?_, ?_, ?_, ?_, ?_, ?_⟩
  · intro j hj
    simp only [hget j hj]
    exact hn _ (List.getElem_mem hj)
  · intro j hj
    simp only [hget j hj]
    rw [cell_of_row _ _ _ _ _ _ (heap_alloc_new w _)]
    simp [hj, Spot.val]
  · intro j hj
    simp only [hget j hj]
    obtain ⟨xs, h1, h2⟩ := hown _ (List.getElem_mem hj)
    exact ⟨xs, h1, ownB_kept h2 ((Fr.refl [] w).alloc _)⟩
  · intro i j hi hj hij g
    simp only [hget i hi, hget j hj]
    rcases Nat.lt_or_gt_of_ne hij with k | k
    · exact (List.pairwise_iff_getElem.1 hap i j hi hj k) g
    · exact fun e1 e2 => (List.pairwise_iff_getElem.1 hap j i hj hi k) g e2 e1
  · intro j hj g
    simp only [hget j hj]
    exact fun e => blocks_mem.2 ⟨_, List.getElem_mem hj, e⟩
  · intro h
    have := hlt _ h
    omega
theorem two_apartB {w : World} {g1 g2 : Nat} {l1 l2 : List UInt8} (h1 : Blk w g1 l1) (h2 : Blk w g2 l2) (n1 : l1.length = 512) (n2 : l2.length = 512) (hne : g1 ≠ g2) :
    Calls Tryz.prog 32 #[.slice (some ⟨w.heap.size, 0, none⟩) 2 2] (w.alloc (.cells #[.slice (some ⟨g1, 0, none⟩) 512 512, .slice (some ⟨g2, 0, none⟩) 512 512] 37)) fun e w' => e = .returned (.bool true) ∧ Fr [g1, g2] (w.alloc (.cells #[.slice (some ⟨g1, 0, none⟩) 512 512, .slice (some ⟨g2, 0, none⟩) 512 512] 37)) w' := by
  have o1 := h1.own (by omega)
  have o2 := h2.own (by omega)
  rw [n1] at o1
  rw [n2] at o2
  have L := lists_of (w := w) [(some ⟨g1, 0, none⟩, 512, 512), (some ⟨g2, 0, none⟩, 512, 512)] #[.slice (some ⟨g1, 0, none⟩) 512 512, .slice (some ⟨g2, 0, none⟩) 512 512] rfl (by simp) (by intro s hs; simp at hs; rcases hs with rfl | rfl <;> simp)
    (by
      intro s hs
      simp at hs
      rcases hs with rfl | rfl
      · exact ⟨_, by simp [arr, n1], o1⟩
      · exact ⟨_, by simp [arr, n2], o2⟩)
    (by
      simp only [List.pairwise_cons, List.mem_cons, List.not_mem_nil, or_false, forall_eq, Spot.val]
      refine ⟨fun g e e2 => ?_, by simp⟩
      simp [Value.ownBlock] at e e2
      omega)
  have hlt : ∀ g ∈ blocksOf [((some ⟨g1, 0, none⟩ : Option Addr), 512, 512), (some ⟨g2, 0, none⟩, 512, 512)], g < (w.alloc (.cells #[.slice (some ⟨g1, 0, none⟩) 512 512, .slice (some ⟨g2, 0, none⟩) 512 512] 37)).heap.size := by
    intro g hg
    simp [blocksOf, Spot.val, Value.ownBlock] at hg
    have k1 := (Array.getElem?_eq_some_iff.1 h1).1
    have k2 := (Array.getElem?_eq_some_iff.1 h2).1
    simp
    omega
  refine (Ab.apartBytes_any _ _ 2 _ 2 _ _ _ L (by omega) hlt).mono ?_
  rintro e w' ⟨rfl, f⟩
  refine ⟨rfl, (fr_ab f).mono (fun k _ hk => ?_)⟩
  simp [blocksOf, Spot.val, Value.ownBlock] at hk
  simp [hk]
end Go.Proofs.YtplboeplknggbaaGreat


/-
  The device's Wake: what it leaves.
-/
import Derived.Test.YtplboeplknggbaaGreatDvTorn
namespace Go.Proofs.YtplboeplknggbaaGreat.Dv
open Go.RowKit Go.Maps

/-! ### the fates, and the map of what is kept -/
abbrev Fs := List (Int × Int)

/-- A slice of fates in memory. -/
def FatesAt (w : World) (ad : Option Addr) (F : Fs) : Prop :=
  ∀ i f, F[i]? = some f → ∃ b off, ad = some ⟨b, off, none⟩ ∧ w.cell? ⟨b, off + i * 2, none⟩ = some (.int .i64 f.1) ∧ w.cell? ⟨b, off + i * 2 + 1, none⟩ = some (.int .u8 f.2) ∧ (Lit.int .i64 f.1).wf = true ∧ 0 ≤ f.2 ∧ f.2 < 256

theorem FatesAt.kept {w w' : World} {ad : Option Addr} {F : Fs} {L : List Nat} (h : FatesAt w ad F) (k : Fr L w w') (hL : ∀ b off, ad = some ⟨b, off, none⟩ → b ∉ L) : FatesAt w' ad F := by
  intro i f hf
  obtain ⟨b, off, ha, c1, c2, r⟩ := h i f hf
  have hlt := block_lt_of_cell c1
  have e := k.block b hlt (hL b off ha)
  exact ⟨b, off, ha, (World.cell?_of_block e).trans c1, (World.cell?_of_block e).trans c2, r⟩

/-- What the fates keep of a block: the last one that names it. -/
def keepOf (F : Fs) (k : Int) : Int := F.foldl (fun acc f => if f.1 = k then f.2 else acc) 0

theorem keepOf_snoc (F : Fs) (f : Int × Int) (k : Int) : keepOf (F ++ [f]) k = if f.1 = k then f.2 else keepOf F k := by simp [keepOf, List.foldl_append]

/-- The map of what is kept, as a plain function. -/
def keepsAt (w : World) (b n : Nat) (G : Int → Int) : Prop := ∃ D : DataW Unit, w.ownsMap Tryz.prog 3 (plainElem Tryz.prog 5) b n D ∧ ∀ x, D.atKey (.int .i64 x) (.lit (.int .u8 0)) = .lit (.int .u8 (G x))

theorem keepsAt.block {w w' : World} {b n : Nat} {G : Int → Int} (h : keepsAt w b n G) (e : w'.heap[b]? = w.heap[b]?) : keepsAt w' b n G := by
  obtain ⟨D, ⟨es, clock, hb, r⟩, hs⟩ := h
  exact ⟨D, ⟨es, clock, e.trans hb, r⟩, hs⟩
theorem keepsAt.lt {w : World} {b n : Nat} {G : Int → Int} (h : keepsAt w b n G) : b < w.heap.size := by
  obtain ⟨D, h, _⟩ := h; exact h.lt
theorem keepsAt.kept {w w' : World} {b n : Nat} {G : Int → Int} {L : List Nat} (h : keepsAt w b n G) (k : Fr L w w') (hb : b ∉ L) : keepsAt w' b n G := h.block (k.block b h.lt hb)
theorem keepsAt.made (w : World) : keepsAt (w.alloc (.map #[] 0)) w.heap.size 0 (fun _ => 0) := ⟨_, World.ownsMap_made w Tryz.prog 3 _, fun _ => rfl⟩

theorem zero5 (w : World) : (zeroValue 5).run Tryz.prog w = .ok (.int .u8 0) w := by kernel_rfl

theorem keepsAt.look {w : World} {b n : Nat} {G : Int → Int} (h : keepsAt w b n G) (x : Int) (hx : (Lit.int .i64 x).wf = true) : (Instr.lookup 121 (.map (some b)) (.int .i64 x) false).run Tryz.prog w = .ok (.int .u8 (G x)) w := by
  obtain ⟨D, hown, hs⟩ := h
  obtain ⟨c, hrun, hat, _⟩ := hown.lookup_int law3 Tryz.underlying121 Tryz.underlying5 (zero5 w) (keyOf_int_mk Tryz.underlying3 hx)
  rw [hs] at hat
  simp only [DataW.lit.injEq, Lit.int.injEq, true_and] at hat
  rw [hrun, hat]

section
variable {ops : Array Oper} {rest : List Oper} {o : Oper} {a : Act} {w : World} {Q : Exit → Act → World → Prop}

theorem wp_keep (hgd : o.guard = none) (m x v : Operand) (ho : o.op = Op.mapUpdate 121 m x v) (b n : Nat) (G : Int → Int) (hm : a.eval m = .map (some b)) (hk : keepsAt w b n G) (hn : n < maxLen) (k c : Int)
    (hx : a.eval x = .int .i64 k) (hv : a.eval v = .int .u8 c) (hwk : (Lit.int .i64 k).wf = true) (h0 : 0 ≤ c) (h1 : c < 256)
    (h : ∀ w', keepsAt w' b (n + 1) (fun j => if k = j then c else G j) → Fr [b] w w' → wpList Tryz.prog ops Q rest (a.put o.dst undef) w') : wpList Tryz.prog ops Q (o :: rest) a w := by
  obtain ⟨D, hown, hs⟩ := hk
  have hwc : (Lit.int .u8 c).wf = true := by simp [Lit.wf, show IntKind.u8.min = 0 from rfl, show IntKind.u8.max = 255 from rfl]; omega
  refine wpList_mapUpdate_in w hgd m x v 121 ho 3 5 law3 Tryz.underlying121 _ b n D hm hown hn _ _ _ hx hv (keyOf_int_mk Tryz.underlying3 hwk) _ [] (plainElem_int Tryz.underlying5 hwc) ?_
  intro w' hown' hturn
  refine h w' ⟨_, hown', fun j => ?_⟩ ((Fr.refl _ _).grown hturn.grown (fun j e _ => by simp at e; simp [e]))
  by_cases e : k = j
  · subst e
    rw [atKey_put_same hown.isMap (show WideAt.IsKeyLit (.int .i64 k) from trivial)]
    simp
  · rw [atKey_put_other (by simpa using fun e' => e e'.symm), hs]; simp only [if_neg e]

end

set_option maxHeartbeats 400000 in
theorem wake_none (w : World) (v s : Value) (h : NoDev w v) : Calls Tryz.prog 27 #[v, s] w fun e w' => e = .returned (.tuple #[]) ∧ w' = w := by
  go_enter Tryz.func27, Tryz.ntmps27
  go_wp2_with (go_at_call 54; refine (made_none _ _ h).mono ?_; rintro e w ⟨rfl, rfl⟩)
  exact bodyPost_ret (results_none Tryz.results27 _ _ _) rfl ⟨rfl, rfl⟩

/-- What waking leaves of a block. -/
def wokenAt (S O : Tab) (F : Fs) : Tab := fun k => match O k with
  | none => S k
  | some l => some (tornTo (S.get k) l (keepOf F k) 8)
def mixw (left : Lit → Bool) (S O : Tab) (F : Fs) : Tab := fun k => if left (.int .i64 k) then S k else wokenAt S O F k

theorem mixw_start {left : Lit → Bool} {S O : Tab} (F : Fs) (h : ∀ k, left (.int .i64 k) = (O k).isSome) : mixw left S O F = S := by
  funext k
  unfold mixw wokenAt
  rw [h]
  cases e : O k <;> simp
theorem mixw_end {left : Lit → Bool} {S O : Tab} (F : Fs) (h : ∀ kl, left kl = false) : mixw left S O F = wokenAt S O F := by
  funext k
  simp [mixw, h]
theorem mixw_get {left : Lit → Bool} {S O : Tab} (F : Fs) {x : Int} (h : left (.int .i64 x) = true) : (mixw left S O F).get x = S.get x := by
  simp [mixw, Tab.get, h]
theorem mixw_step {left : Lit → Bool} {S O : Tab} (F : Fs) {x : Int} {l : List UInt8} (hO : O x = some l) : (mixw left S O F).put x (tornTo (S.get x) l (keepOf F x) 8) = mixw (strike left x) S O F := by
  funext k
  unfold Tab.put mixw strike wokenAt
  by_cases e : k = x
  · subst e
    simp [Lit.sameKey, hO]
  · simp [Lit.sameKey, e]

theorem keepOf_range : ∀ (F : Fs), (∀ f ∈ F, 0 ≤ f.2 ∧ f.2 < 256) → ∀ k, 0 ≤ keepOf F k ∧ keepOf F k < 256 := by
  intro F hF k
  unfold keepOf
  have : ∀ (G : Fs) (acc : Int), (∀ f ∈ G, 0 ≤ f.2 ∧ f.2 < 256) → 0 ≤ acc ∧ acc < 256 → 0 ≤ G.foldl (fun acc f => if f.1 = k then f.2 else acc) acc ∧ G.foldl (fun acc f => if f.1 = k then f.2 else acc) acc < 256 := by
    intro G
    induction G with
    | nil => intro acc _ h; exact h
    | cons g G ih =>
      intro acc hG h
      refine ih _ (fun f hf => hG f (by simp [hf])) ?_
      simp only []
      split
      · exact hG g (by simp)
      · exact h
  exact this F 0 hF (by omega)

theorem FatesAt.range {w : World} {ad : Option Addr} {F : Fs} (h : FatesAt w ad F) (k : Int) : 0 ≤ keepOf F k ∧ keepOf F k < 256 :=
  keepOf_range F (fun f hf => by
    obtain ⟨i, hi, rfl⟩ := List.getElem_of_mem hf
    obtain ⟨_, _, _, _, _, _, r⟩ := h i _ (List.getElem?_eq_getElem hi)
    exact r) k

/-- A look-up in a table, as a run. -/
theorem tabAt.look {w : World} {b : Nat} {S : Tab} (h : tabAt w b S) (x : Int) (hx : (Lit.int .i64 x).wf = true) : (Instr.lookup 106 (.map (some b)) (.int .i64 x) false).run Tryz.prog w = .ok (.agg (arr (S.get x))) w := by
  obtain ⟨D, hown, hs⟩ := h
  obtain ⟨v, ps, hrun, hv⟩ := hown.lookup law3 Tryz.underlying106 (zero72 w) (rdArr_mk zeros_length) (keyOf_int_mk Tryz.underlying3 hx)
  obtain ⟨l, hl, rfl, hz⟩ := rdArr_inv hv
  rw [hs.atKey] at hz
  simp only [Prod.mk.injEq, DataW.held.injEq] at hz
  rw [hrun, ← hz.1]

set_option maxHeartbeats 1000000 in
set_option maxRecDepth 100000 in
theorem wake_dev {w : World} {p bs bo : Nat} {n a : Int} {dn : Bool} {S O : Tab} (h : Dev w p bs bo n a dn S O) (F : Fs) (ad : Option Addr) (c : Nat) (hF : FatesAt w ad F) (hlen : F.length ≤ 1000000) :
    Calls Tryz.prog 27 #[.pointer (some ⟨p, 0, none⟩), .slice ad F.length c] w fun e w' => e = .returned (.tuple #[]) ∧ Dev w' p bs bo n 0 false (wokenAt S O F) Tab.none ∧ Fr [p, bs, bo] w w' := by
  have hmm := @run_makeMap Tryz.prog
  go_enter Tryz.func27, Tryz.ntmps27
  go_wp2_with (first
    | (go_at_call 54; refine (made_dev h).mono ?_; rintro e w ⟨rfl, rfl⟩)
    | go_in)
  have kp0 := keepsAt.made w
  have hb0 : Fr [] w (w.alloc (.map #[] 0)) := (Fr.refl _ _).alloc _
  have hsz : w.heap.size < (w.alloc (.map #[] 0)).heap.size := by simp
  generalize w.alloc (.map #[] 0) = w0 at kp0 hb0 hsz ⊢
  go_loopw [15] (fun i wr => ∃ j : Nat, j ≤ F.length ∧ i = .int .i64 j ∧ keepsAt wr w.heap.size j (keepOf (F.take j)) ∧ Fr [] w wr) (fun i _ => F.length - (intOf i).toNat)
  case atStart => exact ⟨0, by omega, rfl, kp0, hb0⟩
  case round =>
    obtain ⟨j, hj, rfl, kp, fr⟩ := hrel
    by_cases hlt : j < F.length
    · have hlt' : (j : Int) < (F.length : Int) := by omega
      obtain ⟨b, off, had, c1, c2, wf1, k0, k1⟩ := (hF.kept fr (by simp)) j F[j] (List.getElem?_eq_getElem hlt)
      subst had
      have hbl := block_lt_of_cell c1
      have hkj : keepOf (F.take (j + 1)) = fun x => if F[j].1 = x then F[j].2 else keepOf (F.take j) x := by
        funext x
        rw [List.take_succ_eq_append_getElem hlt, keepOf_snoc]
      have HK : Hid (keepOf (F.take (j + 1)) = fun x => if F[j].1 = x then F[j].2 else keepOf (F.take j) x) := hkj
      clear hkj
      go_wp2_with (first
        | (refine wp_keep rfl _ _ _ rfl w.heap.size j (keepOf (F.take j)) rfl (kp.kept ((Fr.refl [] wr).alloc _) (by simp)) (by unfold maxLen; omega) _ _ rfl rfl wf1 k0 k1 ?_; intro w5 kp5 f5)
        | go_in)
      go_roundw
      case rel => exact ⟨j + 1, by omega, by go_num, by rw [HK.out]; exact kp5, (fr.alloc _).then f5 (fun i hi hm => by simp at hm; omega)⟩
      case measure => simp [intOf]; omega
    · obtain rfl : j = F.length := by omega
      rw [List.take_length] at kp
      have dr := h.kept fr (by simp) (by simp) (by simp)
      have c4 := dr.cell4
      have hlt3 := h.lt
      obtain ⟨hp1, hp2, hp3⟩ := hlt3
      have kpl := kp.lt
      have hfin : (↑(List.length F) : Int) < ↑(List.length F) ↔ False := by simp
      go_wp2_with (first
        | (refine wp_range rfl _ rfl bo O rfl dr.opn ?_; intro w2 left0 cnt0 rg0 hleft0 f2 s2)
        | go_in)
      go_frame
      have hrange := hF.range
      obtain ⟨wq, hwq⟩ : ∃ wq, wq = wr := ⟨_, rfl⟩
      subst hwq
      have d2 := dr.kept f2 (by simp) (by simp) (by simp)
      have kp2 := kp.kept f2 (by simp)
      have ne1 := h.ne1; have ne2 := h.ne2; have ne3 := h.ne3
      go_loopw [7] (fun _ wr => ∃ (left : Lit → Bool) (cnt : Nat), Rng wr bo wq.heap.size O left cnt ∧ tabAt wr bs (mixw left S O F) ∧ keepsAt wr w.heap.size F.length (keepOf F) ∧ Fr [bs, wq.heap.size] w2 wr) (fun _ wr => wr.rangeLeft bo wq.heap.size)
      case atStart => exact ⟨left0, cnt0, rg0, by rw [mixw_start F hleft0]; exact d2.safe, kp2, Fr.refl _ _⟩
      case round =>
        obtain ⟨lf, cnt, rg, ts, kp, fr'⟩ := hrel
        have hu := Tryz.underlying124
        have cp := fr'.same (k := p) (by simp; omega) d2.cells
        go_wp2_with (first
          | (refine wp_next rfl _ rfl bo wq.heap.size O lf cnt rfl rg ?_ ?_)
          | go_in)
        · intro hdone
          have c4' : wr.cell? ⟨p, 4, none⟩ = some (.map (some bo)) := by rw [cell_of_row wr p 4 _ _ _ cp]; rfl
          have to := rg.tab
          rw [mixw_end F hdone] at ts
          go_wp2_with (first
            | (refine wp_clear rfl _ rfl bo O rfl to ?_; intro w5 t5 f5
               have d5 : Dev w5 p bs bo n a dn (wokenAt S O F) Tab.none := { d2 with cells := f5.same (by simp; exact ne2) cp, safe := ts.kept f5 (by simp; exact ne3), opn := t5 }
               have k1 := d5.cell1; have k2 := d5.cell2; have z1 := d5.frozen 1; have z2 := d5.frozen 2)
            | go_in)
          go_end0
          refine ⟨rfl, (d5.setDown false).setAhead 0 (by omega) (by omega), ?_⟩
          exact ((((fr.mono (M := [p, bs, bo]) (by simp)).then f2 (by simp)).then fr' (fun i hi hm => by have := fr.size; simp at hm ⊢; omega)).then f5 (fun i hi hm => by simp at hm ⊢; omega)).setCell _ _ (by simp) |>.setCell _ _ (by simp)
        · intro x l w3 cnt3 hO hlx rg3 hcnt f3 hen
          have hl := rg.tab.len hO
          have hx := rg.tab.key hO
          obtain ⟨hx0, hx1⟩ := hx
          have hwx : (Lit.int .i64 x).wf = true := WalkArith.wf_i64 (by omega)
          have cp3 := f3.same (k := p) (by simp; omega) cp
          have ts3 := ts.kept f3 (by simp; omega)
          have kp3 := kp.kept f3 (by simp; omega)
          have hlt3 := ts3.lt
          have sz3 := f3.size
          have szr := fr'.size
          have szq := fr.size
          go_wp2_with (first
            | (refine wp_alloc72 rfl rfl ?_; intro w4 b4 f4 s4)
            | (refine wp_store72 rfl _ _ rfl _ zeros l rfl rfl b4 zeros_length hl ?_; intro w5 b5 f5)
            | go_in)
          have sz4 := f4.size
          have cp5 := f5.same (k := p) (by simp; omega) (f4.same (by simp) cp3)
          have ts5 := (ts3.kept f4 (by simp)).kept f5 (by simp; omega)
          have kp5 := (kp3.kept f4 (by simp)).kept f5 (by simp; omega)
          have sz5 := f5.size
          have hi : (Tryz.prog.info? 124).map (·.size) = some (arr l).toList.length := by rw [size72]; simp [arr, hl]
          have hln : (arr l).toList.length = 512 := by simp [arr, hl]
          have hon := arr_one l
          have hS : ∀ w', w'.heap[p]? = w5.heap[p]? → w'.heap[w3.heap.size]? = w5.heap[w3.heap.size]? → w'.heap[w.heap.size]? = w5.heap[w.heap.size]? →
              w'.cell? ⟨p, 3, none⟩ = some (.map (some bs)) ∧ w'.rangeAt w3.heap.size 0 (arr l).toList ∧ (Instr.lookup 121 (.map (some w.heap.size)) (.int .i64 x) false).run Tryz.prog w' = .ok (.int .u8 (keepOf F x)) w' := by
            intro w' e1 e2 e3
            refine ⟨?_, ?_, ?_⟩
            · rw [cell_of_row w' p 3 _ _ _ (e1.trans cp5)]; rfl
            · have hb : Blk w' w3.heap.size 124 l := e2.trans b5
              exact fun j v hv => hb.src j v hv
            · exact (kp5.block e3).look x hwx
          have s5 := hS w5.drew rfl rfl rfl
          obtain ⟨q1, q2, q3⟩ := hS w5 rfl rfl rfl
          have hlk := (show tabAt w5.drew bs (mixw lf S O F) from ts5.block rfl).look x hwx
          rw [mixw_get F hlx] at hlk
          have hsl := h.safe.get_length x
          obtain ⟨hk0, hk1⟩ := hrange x
          go_region_held3 (fun w' => w'.cell? ⟨p, 3, none⟩ = some (.map (some bs)) ∧ w'.rangeAt w3.heap.size 0 (arr l).toList ∧ (Instr.lookup 121 (.map (some w.heap.size)) (.int .i64 x) false).run Tryz.prog w' = .ok (.int .u8 (keepOf F x)) w')
            (first | exact s5 | exact s7 | exact s8 | exact ⟨q1, q2, q3⟩)
            ((go_at_call 63; refine (torn_any _ _ _ _ hsl hl hk0 hk1).mono ?_; rintro e w7 ⟨rfl, f7⟩
              have s7 := hS w7 (f7.block p (by simp; omega) (by simp)) (f7.block w3.heap.size (by simp; omega) (by simp)) (f7.block w.heap.size (by simp; omega) (by simp))
              obtain ⟨w8, hrun8, t8, f8⟩ := run_tab_put (show tabAt w7 bs (mixw lf S O F) from (show tabAt w5.drew bs (mixw lf S O F) from ts5.block rfl).kept f7 (by simp)) hx0 hx1 (tornTo_length (S.get x) l (keepOf F x) 8)
              have f78 : Fr [bs] w5 w8 := ((Fr.refl [bs] w5).drew.then f7 (by simp)).trans f8
              have s8 := hS w8 (f78.block p (by omega) (by simp; omega)) (f78.block w3.heap.size (by omega) (by simp; omega)) (f78.block w.heap.size (by omega) (by simp; omega))))
          all_goals
            clear hrun8 hlk hen hi hln hon q1 q2 q3 s5 s7 s8 hu
            have rg8 : Rng w8 bo wq.heap.size O (strike lf x) cnt3 := ((rg3.kept f4 (by simp) (by simp)).kept f5 (by simp; omega) (by simp; omega)).kept f78 (by simp; omega) (by simp; omega)
            have kp8 := kp5.kept f78 (by simp; omega)
            have fr8 : Fr [bs, wq.heap.size] w2 w8 := (((fr'.then f3 (fun i hi hm => by simp at hm ⊢; omega)).then f4 (by simp)).then f5 (fun i hi hm => by simp at hm ⊢; omega)).then f78 (fun i hi hm => by simp at hm ⊢; omega)
            go_wp2
            go_roundw
            case rel => exact ⟨_, cnt3, rg8, by rw [← mixw_step F hO]; exact t8, kp8, fr8⟩
            case measure => rw [rg8.measure, rg.measure]; exact hcnt

end Go.Proofs.YtplboeplknggbaaGreat.Dv

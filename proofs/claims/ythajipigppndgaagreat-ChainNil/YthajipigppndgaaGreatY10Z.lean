/-
  Masters that stand in blocks.
-/
import Derived.Test.YthajipigppndgaaGreatY09Z
import Derived.Test.YthajipigppndgaaGreatY08Z
import Derived.Lib.LazyBuf
import Derived.Test.YthajipigppndgaaGreatY05Z
namespace Go.Proofs.YthajipigppndgaaGreat.Dv
open Go.RowKit Go.Maps

/-- What a slice of 512 bytes lies over. -/
def Src (w : World) (b off : Nat) (l : List UInt8) : Prop := ∀ j v, (arr l).toList[j]? = some v → w.cell? ⟨b, off + j, none⟩ = some v

theorem Src.kept {w w' : World} {b off : Nat} {l : List UInt8} {L : List Nat} (h : Src w b off l) (k : Fr L w w') (hb : b ∉ L) : Src w' b off l := by
  intro j v hv
  have hc := h j v hv
  have hlt := block_lt_of_cell hc
  rw [← hc]
  exact World.cell?_of_block (k.block b hlt hb)

set_option maxHeartbeats 1000000 in
set_option maxRecDepth 100000 in
theorem write_dev {w : World} {p bs bo : Nat} {n a : Int} {S O : Tab} (h : Dev w p bs bo n a false S O) (k : Int) (h0 : 0 ≤ k) (h1 : k < n) (b off c : Nat) (l : List UInt8) (hl : l.length = 512) (hsrc : Src w b off l) :
    Calls Tryz.prog 102 #[.pointer (some ⟨p, 0, none⟩), .int .i64 k, .slice (some ⟨b, off, none⟩) 512 c] w fun e w' =>
      e = .returned (.int .i64 (told (crash a))) ∧ Dev w' p bs bo n (left a) (crash a) S (O.put k l) ∧ Fr [p, bo] w w' := by
  have hr : reached n k false = 0 := by simp [reached]; omega
  have hn2 := h.n2
  have hk : (Lit.int .i64 k).wf = true := WalkArith.wf_i64 (by omega)
  have hblt : b < w.heap.size := block_lt_of_cell (hsrc 0 _ (by simp [arr, List.getElem?_eq_getElem (show 0 < l.length by omega)]; rfl))
  go_enter Tryz.func102, Tryz.ntmps102
  go_wp2_with (first
    | (go_at_call 174; refine (reach_dev h k).mono ?_; rw [hr]; rintro e w ⟨rfl, rfl⟩)
    | (refine wp_alloc72 rfl rfl ?_; intro w1 b1 f1 s1; have d1 := h.kept f1 (by simp) (by simp) (by simp); have src1 := hsrc.kept f1 (by simp))
    | (refine wp_copy512 rfl _ _ rfl _ _ _ _ _ 219 zeros l rfl rfl b1 zeros_length hl src1 ?_; intro w2 b2 f2; have d2 := h.fresh d1 (Nat.le_refl _) f2)
    | go_in)
  have c4 := d2.cell4
  have hu := Tryz.underlying219
  have hi : (Tryz.prog.info? 219).map (·.size) = some (arr l).toList.length := by rw [size72]; simp [arr, hl]
  have hln : (arr l).toList.length = 512 := by simp [arr, hl]
  have hon := arr_one l
  have hrg : w2.rangeAt w.heap.size 0 (arr l).toList := fun j v hv => b2.src j v hv
  obtain ⟨w3, hrun, t3, f3⟩ := run_tab_put d2.drew.opn h0 (by omega) hl
  have hlt := h.lt
  have d3 : Dev w3 p bs bo n a false S (O.put k l) := { d2.drew with cells := f3.same (by simp; exact d2.ne2) d2.drew.cells, safe := d2.drew.safe.kept f3 (by simp; exact d2.ne3), opn := t3 }
  have k4 := d3.cell4
  have b3 : Blk w3 w.heap.size 219 l := f3.same (by simp; omega) b2
  have kr : w3.rangeAt w.heap.size 0 (arr l).toList := fun j v hv => b3.src j v hv
  go_region_held3 (fun w' => w'.cell? ⟨p, 4, none⟩ = some (.map (some bo)) ∧ w'.rangeAt w.heap.size 0 (arr l).toList) (first | exact ⟨k4, kr⟩ | go_keep_ranges) (fail)
  have hfr : Fr [p, bo] w w3 := ((f1.then f2 (fun i hi hm => by simp at hm; omega)).drew.mono (M := [p, bo]) (by simp)).then f3 (fun i hi hm => by simp at hm ⊢; exact Or.inr hm)
  clear hrun hu hi hln hon c4 k4 kr hrg
  go_wp2_with (go_at_call 175; refine (count_dev d3).mono ?_; rintro e w4 ⟨rfl, d4, f4⟩)
  go_ret
  exact ⟨rfl, d4, hfr.then f4 (fun i hi hm => by simp at hm ⊢; exact Or.inl hm)⟩

end Go.Proofs.YthajipigppndgaaGreat.Dv

namespace Go.Proofs.YthajipigppndgaaGreat.Dv
open Go.RowKit Go.Maps

/-- Ranging over a table, under way. -/
def Rng (w : World) (b r : Nat) (O : Tab) (left : Lit → Bool) (cnt : Nat) : Prop := ∃ D, w.ranges Tryz.prog 3 rdArr b r 65536 D left cnt ∧ Says D O

theorem Rng.kept {w w' : World} {b r : Nat} {O : Tab} {left : Lit → Bool} {cnt : Nat} {L : List Nat} (h : Rng w b r O left cnt) (k : Fr L w w') (hb : b ∉ L) (hr : r ∉ L) : Rng w' b r O left cnt := by
  obtain ⟨D, ⟨es, clock, since, seen, c0, h1, F, h2, h3, h4, rest⟩, hs⟩ := h
  exact ⟨D, ⟨es, clock, since, seen, c0, k.same hb h1, F, h2, h3, k.same hr h4, rest⟩, hs⟩

theorem Rng.tab {w : World} {b r : Nat} {O : Tab} {left : Lit → Bool} {cnt : Nat} (h : Rng w b r O left cnt) : tabAt w b O := by
  obtain ⟨D, hr, hs⟩ := h
  exact ⟨D, hr.owns, hs⟩

theorem Rng.measure {w : World} {b r : Nat} {O : Tab} {left : Lit → Bool} {cnt : Nat} (h : Rng w b r O left cnt) : w.rangeLeft b r = cnt := by
  obtain ⟨D, hr, hs⟩ := h
  exact hr.left_eq

theorem tabAt.len {w : World} {b : Nat} {O : Tab} (h : tabAt w b O) {x : Int} {l : List UInt8} (hO : O x = some l) : l.length = 512 := by
  obtain ⟨D, _, hs⟩ := h
  exact hs.len x l hO
theorem tabAt.key {w : World} {b : Nat} {O : Tab} (h : tabAt w b O) {x : Int} {l : List UInt8} (hO : O x = some l) : 0 ≤ x ∧ x < 65536 := by
  obtain ⟨D, _, hs⟩ := h
  exact hs.key x l hO

/-- What is still to come is strictly less. -/
def strike (left : Lit → Bool) (x : Int) : Lit → Bool := fun z => left z && !z.sameKey (.int .i64 x)

section
variable {ops : Array Oper} {rest : List Oper} {o : Oper} {a : Act} {w : World} {Q : Exit → Act → World → Prop}

theorem wp_range (hgd : o.guard = none) (m : Operand) (ho : o.op = Op.range 166 m) (b : Nat) (O : Tab) (hm : a.eval m = .map (some b)) (ht : tabAt w b O)
    (h : ∀ w' left cnt, Rng w' b w.heap.size O left cnt → (∀ k, left (.int .i64 k) = (O k).isSome) → Fr [] w w' → w.heap.size < w'.heap.size → wpList Tryz.prog ops Q rest (a.put o.dst (.pointer (some ⟨w.heap.size, 0, none⟩))) w') : wpList Tryz.prog ops Q (o :: rest) a w := by
  obtain ⟨D, hown, hs⟩ := ht
  refine wpList_range_own w hgd m 166 ho 3 219 law3 Tryz.underlying166 rdArr b 65536 D hm hown ?_
  intro w' hrg hg hsz
  exact h w' _ _ ⟨D, hrg, hs⟩ hs.has ((Fr.refl _ _).grown hg (fun j e => nomatch e)) (by omega)

theorem wp_next (hgd : o.guard = none) (it : Operand) (ho : o.op = Op.next it false) (b r : Nat) (O : Tab) (left : Lit → Bool) (cnt : Nat) (hit : a.eval it = .pointer (some ⟨r, 0, none⟩)) (hr : Rng w b r O left cnt)
    (hDone : (∀ kl, left kl = false) → wpList Tryz.prog ops Q rest (a.put o.dst (.tuple #[.bool false])) w)
    (hMore : ∀ (x : Int) (l : List UInt8) (w' : World) (cnt' : Nat), O x = some l → left (.int .i64 x) = true → Rng w' b r O (strike left x) cnt' → cnt' < cnt → Fr [r] w w' →
      (Instr.entry (.pointer (some ⟨r, 0, none⟩))).run Tryz.prog w' = .ok (.tuple #[.int .i64 x, .agg (arr l)]) w' → wpList Tryz.prog ops Q rest (a.put o.dst (.tuple #[.bool true, .int .i64 x, .agg (arr l)])) w') :
    wpList Tryz.prog ops Q (o :: rest) a w := by
  obtain ⟨D, hrg, hs⟩ := hr
  refine wpList_next_ranges w hgd it ho 3 law3 rdArr (Value.int .i64) (fun l : List UInt8 => Value.agg (arr l)) (fun key kl hk => by obtain ⟨x, rfl, _⟩ := Maps.keyOf_int_inv Tryz.underlying3 hk; exact ⟨x, rfl⟩)
    (fun v y hv => by obtain ⟨l, _, rfl, _⟩ := rdArr_inv hv; exact ⟨l, rfl⟩) b r 65536 D left cnt hit hrg (fun _ h => hDone h) ?_
  intro x l kl y w' cnt' hkey hl hv hat hrg' hlt hg hsz hen
  obtain ⟨x', ex, rfl, _⟩ := Maps.keyOf_int_inv Tryz.underlying3 hkey
  cases ex
  obtain ⟨l', hl', el, rfl⟩ := rdArr_inv hv
  have e1 : l = l' := by
    have h1 := bytesOf_mk l
    have h2 := bytesOf_mk l'
    simp only [Value.agg.injEq] at el
    have h3 : (l.map fun b => Value.int .u8 b.toNat) = (l'.map fun b => Value.int .u8 b.toNat) := by simpa [arr] using el
    rw [h3, h2] at h1
    exact (Option.some.inj h1).symm
  subst e1
  have hO : O x = some l := by
    have hh := hs.has x
    rw [has_true_of_atKey hat] at hh
    obtain ⟨m, hm⟩ := Option.isSome_iff_exists.1 hh.symm
    have := hs.at' x m hm .nil
    rw [hat] at this
    simp only [DataW.held.injEq] at this
    rw [hm, this]
  exact hMore x l w' cnt' hO hl ⟨D, hrg', hs⟩ hlt ((Fr.refl _ _).grown hg (fun j e _ => by simp at e; simp [e])) hen

end

/-- O's entries laid over S's, but for those that are still to come. -/
def mix (left : Lit → Bool) (S O : Tab) : Tab := fun k => if left (.int .i64 k) then S k else (O k).or (S k)
def over (S O : Tab) : Tab := fun k => (O k).or (S k)

theorem mix_start {left : Lit → Bool} {S O : Tab} (h : ∀ k, left (.int .i64 k) = (O k).isSome) : mix left S O = S := by
  funext k
  unfold mix
  rw [h]
  cases e : O k <;> simp
theorem mix_end {left : Lit → Bool} {S O : Tab} (h : ∀ kl, left kl = false) : mix left S O = over S O := by
  funext k
  simp [mix, over, h]
theorem mix_step {left : Lit → Bool} {S O : Tab} {x : Int} {l : List UInt8} (hO : O x = some l) : (mix left S O).put x l = mix (strike left x) S O := by
  funext k
  unfold Tab.put mix strike
  by_cases e : k = x
  · subst e
    simp [Lit.sameKey, hO]
  · simp [Lit.sameKey, e]

set_option maxHeartbeats 1000000 in
set_option maxRecDepth 100000 in
theorem sync_dev {w : World} {p bs bo : Nat} {n a : Int} {S O : Tab} (h : Dev w p bs bo n a false S O) (hc : crash a = false) :
    Calls Tryz.prog 104 #[.pointer (some ⟨p, 0, none⟩)] w fun e w' => e = .returned (.int .i64 0) ∧ Dev w' p bs bo n (left a) false (over S O) Tab.none ∧ Fr [p, bs, bo] w w' := by
  go_enter Tryz.func104, Tryz.ntmps104
  go_wp2_with (first
    | (go_at_call 176; refine (awake_dev h).mono ?_; rw [told_f]; rintro e w ⟨rfl, rfl⟩)
    | (go_at_call 175; refine (count_dev h).mono ?_; rw [hc, told_f]; rintro e w1 ⟨rfl, d1, f1⟩; have c4 := d1.cell4)
    | (refine wp_range rfl _ rfl bo O rfl d1.opn ?_; intro w2 left0 cnt0 rg0 hleft0 f2 s2)
    | go_in)
  have hlt := d1.lt
  obtain ⟨hp1, hp2, hp3⟩ := hlt
  have d2 := d1.kept f2 (by simp) (by simp) (by simp)
  have ne1 := d1.ne1; have ne2 := d1.ne2; have ne3 := d1.ne3
  go_frame
  go_loopw [5] (fun _ wr => ∃ (left : Lit → Bool) (cnt : Nat), Rng wr bo w1.heap.size O left cnt ∧ tabAt wr bs (mix left S O) ∧ Fr [bs, w1.heap.size] w2 wr) (fun _ wr => wr.rangeLeft bo w1.heap.size)
  case atStart => exact ⟨left0, cnt0, rg0, by rw [mix_start hleft0]; exact d2.safe, Fr.refl _ _⟩
  case round =>
    obtain ⟨lf, cnt, rg, ts, fr⟩ := hrel
    have hu := Tryz.underlying219
    have cp := fr.same (k := p) (by simp; omega) d2.cells
    go_wp2_with (first
      | (refine wp_next rfl _ rfl bo w1.heap.size O lf cnt rfl rg ?_ ?_)
      | go_in)
    · intro hdone
      have c4' : wr.cell? ⟨p, 4, none⟩ = some (.map (some bo)) := by rw [cell_of_row wr p 4 _ _ _ cp]; rfl
      have to := rg.tab
      go_wp2_with (first
        | (refine wp_clear rfl _ rfl bo O rfl to ?_; intro w5 t5 f5)
        | go_in)
      go_ret
      have d5 : Dev w5 p bs bo n (left a) false (over S O) Tab.none := { d2 with cells := f5.same (by simp; exact ne2) cp, safe := by rw [← mix_end hdone]; exact ts.kept f5 (by simp; exact ne3), opn := t5 }
      exact ⟨rfl, d5, ((((f1.mono (M := [p, bs, bo]) (fun i _ hm => by simp at hm ⊢; exact Or.inl hm)).then f2 (by simp)).then fr (fun i hi hm => by have := f1.size; simp at hm ⊢; omega)).then f5 (fun i hi hm => by simp at hm ⊢; omega))⟩
    · intro x l w3 cnt3 hO _ rg3 hcnt f3 hen
      have hl := rg.tab.len hO
      have hx := rg.tab.key hO
      obtain ⟨hx0, hx1⟩ := hx
      have cp3 := f3.same (k := p) (by simp; omega) cp
      have ts3 := ts.kept f3 (by simp; omega)
      have hlt3 := ts3.lt
      have sz3 := f3.size
      have szr := fr.size
      go_wp2_with (first
        | (refine wp_alloc72 rfl rfl ?_; intro w4 b4 f4 s4)
        | (refine wp_store72 rfl _ _ rfl _ zeros l rfl rfl b4 zeros_length hl ?_; intro w5 b5 f5)
        | go_in)
      have sz4 := f4.size
      have cp5 := f5.same (k := p) (by simp; omega) (f4.same (by simp) cp3)
      have ts5 := (ts3.kept f4 (by simp)).kept f5 (by simp; omega)
      have c3 : w5.cell? ⟨p, 3, none⟩ = some (.map (some bs)) := by rw [cell_of_row w5 p 3 _ _ _ cp5]; rfl
      have hi : (Tryz.prog.info? 219).map (·.size) = some (arr l).toList.length := by rw [size72]; simp [arr, hl]
      have hln : (arr l).toList.length = 512 := by simp [arr, hl]
      have hon := arr_one l
      have hrg : w5.rangeAt w3.heap.size 0 (arr l).toList := fun j v hv => b5.src j v hv
      have ts5d : tabAt w5.drew bs (mix lf S O) := ts5.block rfl
      obtain ⟨w6, hrun, t6, f6⟩ := run_tab_put ts5d hx0 hx1 hl
      have cp6 := f6.same (k := p) (by simp; omega) (show w5.drew.heap[p]? = _ from cp5)
      have k3 : w6.cell? ⟨p, 3, none⟩ = some (.map (some bs)) := by rw [cell_of_row w6 p 3 _ _ _ cp6]; rfl
      have b6 : Blk w6 w3.heap.size 219 l := f6.same (by simp; omega) (show w5.drew.heap[w3.heap.size]? = _ from b5)
      have kr : w6.rangeAt w3.heap.size 0 (arr l).toList := fun j v hv => b6.src j v hv
      go_region_held3 (fun w' => w'.cell? ⟨p, 3, none⟩ = some (.map (some bs)) ∧ w'.rangeAt w3.heap.size 0 (arr l).toList) (first | exact ⟨k3, kr⟩ | go_keep_ranges) (fail)
      clear hrun hen hi hln hon c3 k3 hrg kr
      have f56 : Fr [bs] w5 w6 := (Fr.refl [bs] w5).drew.trans f6
      have rg6 : Rng w6 bo w1.heap.size O (strike lf x) cnt3 := ((rg3.kept f4 (by simp) (by simp)).kept f5 (by simp; omega) (by simp; omega)).kept f56 (by simp; omega) (by simp; omega)
      have fr6 : Fr [bs, w1.heap.size] w2 w6 := (((fr.then f3 (fun i hi hm => by simp at hm ⊢; omega)).then f4 (by simp)).then f5 (fun i hi hm => by simp at hm ⊢; omega)).then f56 (fun i hi hm => by simp at hm ⊢; omega)
      go_wp2
      go_roundw
      case rel => exact ⟨_, cnt3, rg6, by rw [← mix_step hO]; exact t6, fr6⟩
      case measure => rw [rg6.measure, rg.measure]; exact hcnt

end Go.Proofs.YthajipigppndgaaGreat.Dv

namespace Go.Proofs.YthajipigppndgaaGreat
open Go.RowKit Go.Maps

theorem fr_dv {L : List Nat} {a b : World} (h : Dv.Fr L a b) : Fr L a b := ⟨h.os, h.tape, h.output, h.size, h.block⟩
theorem dv_fr {L : List Nat} {a b : World} (h : Fr L a b) : Dv.Fr L a b := ⟨h.os, h.tape, h.output, h.size, h.block⟩
theorem dev_kept {w w' : World} {p bs bo : Nat} {n a : Int} {dn : Bool} {S O : Dv.Tab} (h : Dv.Dev w p bs bo n a dn S O) {L : List Nat} (k : Fr L w w') (hp : p ∉ L) (hs : bs ∉ L) (ho : bo ∉ L) : Dv.Dev w' p bs bo n a dn S O := h.kept (dv_fr k) hp hs ho
theorem latest_len {w : World} {p bs bo : Nat} {n a : Int} {dn : Bool} {S O : Dv.Tab} (h : Dv.Dev w p bs bo n a dn S O) (k : Int) : (Dv.latest S O k).length = 512 := by
  unfold Dv.latest
  cases e : O k with
  | none => exact h.safe.get_length k
  | some l => exact h.opn.len e
theorem dread {w : World} {p bs bo : Nat} {n a : Int} {S O : Dv.Tab} (h : Dv.Dev w p bs bo n a false S O) (k : Int) (h0 : 0 ≤ k) (h1 : k < n) :
    Calls Tryz.prog 170 #[.pointer (some ⟨p, 0, none⟩), .int .i64 k] w fun e w' => ∃ g, e = .returned (.tuple #[.slice (some ⟨g, 0, none⟩) 512 512, .int .i64 0]) ∧ Blk w' g (Dv.latest S O k) ∧ w.heap.size ≤ g ∧ Fr [] w w' := by
  refine (Dv.read_dev h k h0 h1).mono ?_
  rintro e w' ⟨g, rfl, b, hg, f⟩
  exact ⟨g, rfl, b, hg, fr_dv f⟩
/-- An area in a box. -/
def ABox (w : World) (b d : Nat) (x y : Int) : Prop := w.heap[b]? = some (.cells #[.pointer (some ⟨d, 0, none⟩), .int .i64 x, .int .i64 y] 150)
theorem ABox.cells {w w' : World} {b d : Nat} {x y : Int} (h : ABox w b d x y) (f : Fr [] w w') : w'.cell? ⟨b, 0, none⟩ = some (.pointer (some ⟨d, 0, none⟩)) ∧ w'.cell? ⟨b, 1, none⟩ = some (.int .i64 x) ∧ w'.cell? ⟨b, 2, none⟩ = some (.int .i64 y) := by
  have h' : ABox w' b d x y := f.same (by simp) h
  exact ⟨cell_of_row w' b 0 _ _ _ h', cell_of_row w' b 1 _ _ _ h', cell_of_row w' b 2 _ _ _ h'⟩

set_option maxHeartbeats 400000 in
set_option maxRecDepth 100000 in
theorem stand_no (w : World) (d bs bo : Nat) (nb a : Int) (S O : Dv.Tab) (hd : Dv.Dev w d bs bo nb a false S O) (first count T : Int) (f0 : 0 ≤ first) (f1 : first < nb) (f2 : first ≤ 65536) (c0 : 4 ≤ count) (c1 : count ≤ 65536) (hP : stampP ((Dv.latest S O first).take 64) ≠ 1) :
    Calls Tryz.prog 252 #[.agg #[.pointer (some ⟨d, 0, none⟩), .int .i64 first, .int .i64 count], .int .i64 1, .int .i64 T] w fun e w' => e = .returned (.tuple #[.slice none 0 0, .int .i64 0]) ∧ Fr [] w w' := by
  have ab : ABox (w.alloc (.cells #[.pointer (some ⟨d, 0, none⟩), .int .i64 first, .int .i64 count] 150)) w.heap.size d first count := heap_alloc_new w _
  have fa : Fr [] w (w.alloc (.cells #[.pointer (some ⟨d, 0, none⟩), .int .i64 first, .int .i64 count] 150)) := (Fr.refl [] w).alloc _
  go_enter Tryz.func252, Tryz.ntmps252
  go_wp2_with (go_at_call 172; refine (inSector_any _ 0 (by omega)).mono ?_; rintro e w' ⟨rfl, hw⟩; subst hw)
  generalize w.alloc (.cells #[.pointer (some ⟨d, 0, none⟩), .int .i64 first, .int .i64 count] 150) = w1 at ab fa ⊢
  go_loopw [8, 9, 10, 11, 12] (fun s8 s9 s10 s11 s12 wr => s8 = .slice none 0 0 ∧ s9 = .slice none 0 0 ∧ s10 = .int .i64 0 ∧ s11 = .int .i64 1 ∧ s12 = .int .i64 1 ∧ wr = w1) (fun _ _ _ _ _ _ => 0)
  case atStart => exact ⟨rfl, rfl, rfl, rfl, rfl, rfl⟩
  case round =>
    obtain ⟨rfl, rfl, rfl, rfl, rfl, hwr⟩ := hrel
    subst hwr
    have heq : ∀ w : World, (binOp .eql 26 (.slice none 0 0) (.slice none 0 0)).run Tryz.prog w = .ok (.bool true) w := fun w => Lib.run_eql_slice_nil w _ _ none 0 0 0 0 Tryz.underlying26
    go_wp2
    clear heq
    obtain ⟨B, HB⟩ : ∃ B, Hid (w.heap.size = B) := ⟨_, rfl⟩
    rw [HB.out] at ab ⊢
    have hd1 := dev_kept hd fa (by simp) (by simp) (by simp)
    go_cut [13, 14] from 13 (fun s13 s14 wx => ∃ g, s13 = .slice (some ⟨g, 0, none⟩) 512 512 ∧ s14 = .int .i64 0 ∧ Blk wx g (Dv.latest S O first) ∧ Fr [] wr wx)
    case first => as_aux_lemma =>
      obtain ⟨W0, HW0⟩ : ∃ W0, Hid (W0 = wr) := ⟨_, rfl⟩
      have gg : Fr [] W0 wr.drew := (by rw [HW0.out]; exact (Fr.refl _ _).drew)
      rw [← HW0.out] at ab hd1
      have SK : Hid (∀ w', Fr [] W0 w' → w'.cell? ⟨B, 0, none⟩ = some (.pointer (some ⟨d, 0, none⟩)) ∧ w'.cell? ⟨B, 1, none⟩ = some (.int .i64 first) ∧ w'.cell? ⟨B, 2, none⟩ = some (.int .i64 count)) := hidI (fun w' f => ab.cells f)
      have SD : Hid (∀ w', Fr [] W0 w' → Dv.Dev w' d bs bo nb a false S O) := hidI (fun w' f => dev_kept hd1 f (by simp) (by simp) (by simp))
      have k0 := SK.out _ gg
      go_region_held3 (fun w' => w'.cell? ⟨B, 0, none⟩ = some (.pointer (some ⟨d, 0, none⟩)) ∧ w'.cell? ⟨B, 1, none⟩ = some (.int .i64 first) ∧ w'.cell? ⟨B, 2, none⟩ = some (.int .i64 count)) (first | exact SK.out _ gg)
        ((first
          | (go_at_call 103; refine (block_any _ _ first count 0 (by omega) f0 f2 c0 c1).mono ?_; rintro e w7 ⟨rfl, f7⟩; replace gg := gg.trans f7)
          | (go_at_call 170; refine (dread (SD.out _ gg) first f0 f1).mono ?_; rintro e w8 ⟨g8, rfl, b8, hg8, f8⟩; replace gg := gg.trans f8)))
      all_goals go_wp2
      all_goals go_meet
      all_goals (have HW := HW0.out; subst HW)
      all_goals exact ⟨g8, rfl, rfl, b8, gg⟩
    obtain ⟨g, rfl, rfl, bx, fx⟩ := hcut
    have hL := latest_len hd first
    generalize Dv.latest S O first = L at bx hL hP
    have hl64 : (L.take 64).length = 64 := by rw [List.length_take, hL]; rfl
    have b64 : BytesAt wc (some ⟨g, 0, none⟩) (L.take 64) := by simpa using bx.bytes.sub 0 64
    have hs : Calls Tryz.prog 171 #[.slice (some ⟨g, 0, none⟩) 512 512, .int .i64 1] wc fun e w' => e = .returned (.slice (some ⟨g, 0, none⟩) 64 512) ∧ w' = wc := sectorOf_any wc g 512 0 (by omega) (by omega)
    have hr := readStamp_any wc g 0 64 512 (L.take 64) hl64 (by omega) (by omega) b64
    generalize L.take 64 = L64 at hl64 b64 hr hP
    have q1 : (stampP L64 != 1) = true := by rw [bne_iff_ne]; exact hP
    generalize stampP L64 = SP at hr q1
    generalize stampT L64 = ST at hr
    generalize stampU L64 = SU at hr
    clear hP
    go_wp2_with (first
      | (go_at_call 171; refine hs.mono ?_; rintro e wc ⟨rfl, rfl⟩)
      | (go_at_call 279; refine hr.mono ?_; rintro e w9 ⟨rfl, f9⟩))
    go_ret2
    exact ⟨rfl, ((fa.trans fx).trans f9).alloc _⟩

end Go.Proofs.YthajipigppndgaaGreat

namespace Go.Proofs.YthajipigppndgaaGreat
open Go.RowKit Go.Maps

theorem sizeM : (Tryz.prog.info? 159).map (·.size) = some 3 := by kernel_rfl
def MBox (w : World) (b : Nat) (m : Mst) : Prop := w.heap[b]? = some (.cells #[.int .i64 m.seq, .int .i64 m.turn, .int .i64 m.old] 159)
theorem bytesEq_same (w : World) (a1 a2 : Option Addr) (n c1 c2 : Nat) (l : List UInt8) (h1 : l.length = n) (hn : 0 < n) (hb1 : BytesAt w a1 l) (hb2 : BytesAt w a2 l) : Calls Tryz.prog 180 #[.slice a1 n c1, .slice a2 n c2] w fun e w' => e = .returned (.bool true) ∧ w' = w := by
  have r1 := run_conv (w := w) l a1 n c1 h1 hb1 (fun e => absurd e (by omega))
  have r2 := run_conv (w := w) l a2 n c2 h1 hb2 (fun e => absurd e (by omega))
  have e3 : ((mkS l).toList == (mkS l).toList) = true := beq_self_eq_true _
  go_enter Tryz.func180, Tryz.ntmps180
  go_wp2
  go_ret
  exact ⟨rfl, rfl⟩
/-- The numbers that a block says. -/
def numL (l : List UInt8) (j : Nat) : Int := (ofBe ((l.drop (4 + 8 * j)).take 8) : Int) - 9223372036854775808
theorem getNum (w : World) (g C : Nat) (l : List UInt8) (j : Nat) (hj : j ≤ 2) (hl : l.length = 512) (hb : BytesAt w (some ⟨g, 4 + 8 * j, none⟩) (l.drop (4 + 8 * j))) :
    Calls Tryz.prog 269 #[.slice (some ⟨g, 4 + 8 * j, none⟩) (508 - 8 * j) C] w fun e w' => e = .returned (.tuple #[.int .i64 (numL l j), .int .i64 8, .bool true]) ∧ w' = w :=
  getInt_any w (some ⟨g, 4 + 8 * j, none⟩) (508 - 8 * j) C (l.drop (4 + 8 * j)) (by rw [List.length_drop, hl]; omega) hb (by omega) (by omega)
theorem resM {fn : Func} {p : Tmp} (h : fn.results = #[.cell p 159]) (tmps : Array Value) (w : World) (b : Nat) (m : Mst) (hp : tmps.getD p undef = .pointer (some ⟨b, 0, none⟩)) (hg : MBox w b m) :
    (results fn tmps).run Tryz.prog w = .ok (.agg (mV m)) w := by
  have hl := run_loadVar_row w b 159 159 #[.int .i64 m.seq, .int .i64 m.turn, .int .i64 m.old] (0, 0) _ hg Tryz.underlying159 rfl (by rw [sizeM]; rfl)
  have hp2 : tmps[p]?.getD undef = .pointer (some ⟨b, 0, none⟩) := by simpa using hp
  simp only [results, h]
  simp [hp2, asAddr, hl]
  rfl
section
variable {ops : Array Oper} {rest : List Oper} {o : Oper} {a : Act} {w : World} {Q : Exit → Act → World → Prop}
theorem wp_storeM (hgd : o.guard = none) (x y : Operand) (ho : o.op = .store 159 x y) (b : Nat) (r r' : Mst) (hx : a.eval x = .pointer (some ⟨b, 0, none⟩)) (hy : a.eval y = .agg #[.int .i64 r'.seq, .int .i64 r'.turn, .int .i64 r'.old]) (hg : MBox w b r)
    (h : ∀ w', MBox w' b r' → Fr [b] w w' → wpList Tryz.prog ops Q rest (a.put o.dst undef) w') : wpList Tryz.prog ops Q (o :: rest) a w :=
  wpList_store_row hgd 159 x y ho b #[.int .i64 r'.seq, .int .i64 r'.turn, .int .i64 r'.old] hx hy 159 _ hg sizeM rfl (by simp; exact ⟨rfl, rfl, rfl⟩)
    (h _ (setRow_heap w b _ _ _ _ hg) ⟨rfl, rfl, rfl, by simp, fun i _ hn => setRow_other w b i _ (fun e => hn (by simp [e]))⟩)
end
end Go.Proofs.YthajipigppndgaaGreat


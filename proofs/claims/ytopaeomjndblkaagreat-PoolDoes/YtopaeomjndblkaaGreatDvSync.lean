/-
  The device's Sync: what it answers, and what it leaves; the laws for ranging over a table.
-/
import Derived.Test.YtopaeomjndblkaaGreatDvWrite
namespace Go.Proofs.YtopaeomjndblkaaGreat.Dv
open Go.RowKit Go.Maps

/-- Ranging over a table, under way. -/
def Rng (w : World) (b r : Nat) (O : Tab) (left : Lit → Bool) (cnt : Nat) : Prop := ∃ D, w.ranges Tryz.prog 3 rdArr b r 65536 D left cnt ∧ Says D O

theorem Rng.kept {w w' : World} {b r : Nat} {O : Tab} {left : Lit → Bool} {cnt : Nat} {L : List Nat} (h : Rng w b r O left cnt) (k : Fr L w w') (hb : b ∉ L) (hr : r ∉ L) : Rng w' b r O left cnt := by
  obtain ⟨D, ⟨es, clock, since, seen, c0, h1, F, h2, h3, h4, rest⟩, hs⟩ := h
  exact ⟨D, ⟨es, clock, since, seen, c0, k.same hb h1, F, h2, h3, k.same hr h4, rest⟩, hs⟩

theorem Rng.tab {w : World} {b r : Nat} {O : Tab} {left : Lit → Bool} {cnt : Nat} (h : Rng w b r O left cnt) : tabAt w b O := by
  obtain ⟨D, hr, hs⟩ := h
  exact ⟨D, hr.owns, hs⟩

theorem Rng.measure {w : World} {b r : Nat} {O : Tab} {left : Lit → Bool} {cnt : Nat} (h : Rng w b r O left cnt) : w.rangeLeft b r = cnt := by
  obtain ⟨D, hr, hs⟩ := h
  exact hr.left_eq

theorem tabAt.len {w : World} {b : Nat} {O : Tab} (h : tabAt w b O) {x : Int} {l : List UInt8} (hO : O x = some l) : l.length = 512 := by
  obtain ⟨D, _, hs⟩ := h
  exact hs.len x l hO
theorem tabAt.key {w : World} {b : Nat} {O : Tab} (h : tabAt w b O) {x : Int} {l : List UInt8} (hO : O x = some l) : 0 ≤ x ∧ x < 65536 := by
  obtain ⟨D, _, hs⟩ := h
  exact hs.key x l hO

/-- What is still to come is strictly less. -/
def strike (left : Lit → Bool) (x : Int) : Lit → Bool := fun z => left z && !z.sameKey (.int .i64 x)

section
variable {ops : Array Oper} {rest : List Oper} {o : Oper} {a : Act} {w : World} {Q : Exit → Act → World → Prop}

theorem wp_range (hgd : o.guard = none) (m : Operand) (ho : o.op = Op.range 178 m) (b : Nat) (O : Tab) (hm : a.eval m = .map (some b)) (ht : tabAt w b O)
    (h : ∀ w' left cnt, Rng w' b w.heap.size O left cnt → (∀ k, left (.int .i64 k) = (O k).isSome) → Fr [] w w' → w.heap.size < w'.heap.size → wpList Tryz.prog ops Q rest (a.put o.dst (.pointer (some ⟨w.heap.size, 0, none⟩))) w') : wpList Tryz.prog ops Q (o :: rest) a w := by
  obtain ⟨D, hown, hs⟩ := ht
  refine wpList_range_own w hgd m 178 ho 3 185 law3 Tryz.underlying178 rdArr b 65536 D hm hown ?_
  intro w' hrg hg hsz
  exact h w' _ _ ⟨D, hrg, hs⟩ hs.has ((Fr.refl _ _).grown hg (fun j e => nomatch e)) (by omega)

theorem wp_next (hgd : o.guard = none) (it : Operand) (ho : o.op = Op.next it false) (b r : Nat) (O : Tab) (left : Lit → Bool) (cnt : Nat) (hit : a.eval it = .pointer (some ⟨r, 0, none⟩)) (hr : Rng w b r O left cnt)
    (hDone : (∀ kl, left kl = false) → wpList Tryz.prog ops Q rest (a.put o.dst (.tuple #[.bool false])) w)
    (hMore : ∀ (x : Int) (l : List UInt8) (w' : World) (cnt' : Nat), O x = some l → left (.int .i64 x) = true → Rng w' b r O (strike left x) cnt' → cnt' < cnt → Fr [r] w w' →
      (Instr.entry (.pointer (some ⟨r, 0, none⟩))).run Tryz.prog w' = .ok (.tuple #[.int .i64 x, .agg (arr l)]) w' → wpList Tryz.prog ops Q rest (a.put o.dst (.tuple #[.bool true, .int .i64 x, .agg (arr l)])) w') :
    wpList Tryz.prog ops Q (o :: rest) a w := by
  obtain ⟨D, hrg, hs⟩ := hr
  refine wpList_next_ranges w hgd it ho 3 law3 rdArr (Value.int .i64) (fun l : List UInt8 => Value.agg (arr l)) (fun key kl hk => by obtain ⟨x, rfl, _⟩ := Maps.keyOf_int_inv Tryz.underlying3 hk; exact ⟨x, rfl⟩)
    (fun v y hv => by obtain ⟨l, _, rfl, _⟩ := rdArr_inv hv; exact ⟨l, rfl⟩) b r 65536 D left cnt hit hrg (fun _ h => hDone h) ?_
  intro x l kl y w' cnt' hkey hl hv hat hrg' hlt hg hsz hen
  obtain ⟨x', ex, rfl, _⟩ := Maps.keyOf_int_inv Tryz.underlying3 hkey
  cases ex
  obtain ⟨l', hl', el, rfl⟩ := rdArr_inv hv
  have e1 : l = l' := by
    have h1 := bytesOf_mk l
    have h2 := bytesOf_mk l'
    simp only [Value.agg.injEq] at el
    have h3 : (l.map fun b => Value.int .u8 b.toNat) = (l'.map fun b => Value.int .u8 b.toNat) := by simpa [arr] using el
    rw [h3, h2] at h1
    exact (Option.some.inj h1).symm
  subst e1
  have hO : O x = some l := by
    have hh := hs.has x
    rw [has_true_of_atKey hat] at hh
    obtain ⟨m, hm⟩ := Option.isSome_iff_exists.1 hh.symm
    have := hs.at' x m hm .nil
    rw [hat] at this
    simp only [DataW.held.injEq] at this
    rw [hm, this]
  exact hMore x l w' cnt' hO hl ⟨D, hrg', hs⟩ hlt ((Fr.refl _ _).grown hg (fun j e _ => by simp at e; simp [e])) hen

end

/-- O's entries laid over S's, but for those that are still to come. -/
def mix (left : Lit → Bool) (S O : Tab) : Tab := fun k => if left (.int .i64 k) then S k else (O k).or (S k)
def over (S O : Tab) : Tab := fun k => (O k).or (S k)

theorem mix_start {left : Lit → Bool} {S O : Tab} (h : ∀ k, left (.int .i64 k) = (O k).isSome) : mix left S O = S := by
  funext k
  unfold mix
  rw [h]
  cases e : O k <;> simp
theorem mix_end {left : Lit → Bool} {S O : Tab} (h : ∀ kl, left kl = false) : mix left S O = over S O := by
  funext k
  simp [mix, over, h]
theorem mix_step {left : Lit → Bool} {S O : Tab} {x : Int} {l : List UInt8} (hO : O x = some l) : (mix left S O).put x l = mix (strike left x) S O := by
  funext k
  unfold Tab.put mix strike
  by_cases e : k = x
  · subst e
    simp [Lit.sameKey, hO]
  · simp [Lit.sameKey, e]

set_option maxHeartbeats 400000 in
theorem sync_none (w : World) (v : Value) (h : NoDev w v) : Calls Tryz.prog 125 #[v] w fun e w' => e = .returned (.int .i64 1) ∧ w' = w := by
  go_enter Tryz.func125, Tryz.ntmps125
  go_wp2_with (go_at_call 134; refine (awake_none _ _ h).mono ?_; rintro e w ⟨rfl, rfl⟩)
  go_ret
  exact ⟨rfl, rfl⟩

set_option maxHeartbeats 400000 in
theorem sync_down {w : World} {p bs bo : Nat} {n a : Int} {S O : Tab} (h : Dev w p bs bo n a true S O) : Calls Tryz.prog 125 #[.pointer (some ⟨p, 0, none⟩)] w fun e w' => e = .returned (.int .i64 8) ∧ w' = w := by
  go_enter Tryz.func125, Tryz.ntmps125
  go_wp2_with (go_at_call 134; refine (awake_dev h).mono ?_; rw [told_t]; rintro e w ⟨rfl, rfl⟩)
  go_ret
  exact ⟨rfl, rfl⟩

set_option maxHeartbeats 400000 in
theorem sync_crash {w : World} {p bs bo : Nat} {n a : Int} {S O : Tab} (h : Dev w p bs bo n a false S O) (hc : crash a = true) :
    Calls Tryz.prog 125 #[.pointer (some ⟨p, 0, none⟩)] w fun e w' => e = .returned (.int .i64 8) ∧ Dev w' p bs bo n (left a) true S O ∧ Fr [p] w w' := by
  go_enter Tryz.func125, Tryz.ntmps125
  go_wp2_with (first | (go_at_call 134; refine (awake_dev h).mono ?_; rw [told_f]; rintro e w ⟨rfl, rfl⟩) | (go_at_call 207; refine (count_dev h).mono ?_; rw [hc, told_t]; rintro e w1 ⟨rfl, d1, f1⟩))
  go_ret
  exact ⟨rfl, d1, f1⟩

set_option maxHeartbeats 1000000 in
set_option maxRecDepth 100000 in
theorem sync_dev {w : World} {p bs bo : Nat} {n a : Int} {S O : Tab} (h : Dev w p bs bo n a false S O) (hc : crash a = false) :
    Calls Tryz.prog 125 #[.pointer (some ⟨p, 0, none⟩)] w fun e w' => e = .returned (.int .i64 0) ∧ Dev w' p bs bo n (left a) false (over S O) Tab.none ∧ Fr [p, bs, bo] w w' := by
  go_enter Tryz.func125, Tryz.ntmps125
  go_wp2_with (first
    | (go_at_call 134; refine (awake_dev h).mono ?_; rw [told_f]; rintro e w ⟨rfl, rfl⟩)
    | (go_at_call 207; refine (count_dev h).mono ?_; rw [hc, told_f]; rintro e w1 ⟨rfl, d1, f1⟩; have c4 := d1.cell4)
    | (refine wp_range rfl _ rfl bo O rfl d1.opn ?_; intro w2 left0 cnt0 rg0 hleft0 f2 s2)
    | go_in)
  have hlt := d1.lt
  obtain ⟨hp1, hp2, hp3⟩ := hlt
  have d2 := d1.kept f2 (by simp) (by simp) (by simp)
  have ne1 := d1.ne1; have ne2 := d1.ne2; have ne3 := d1.ne3
  go_frame
  go_loopw [5] (fun _ wr => ∃ (left : Lit → Bool) (cnt : Nat), Rng wr bo w1.heap.size O left cnt ∧ tabAt wr bs (mix left S O) ∧ Fr [bs, w1.heap.size] w2 wr) (fun _ wr => wr.rangeLeft bo w1.heap.size)
  case atStart => exact ⟨left0, cnt0, rg0, by rw [mix_start hleft0]; exact d2.safe, Fr.refl _ _⟩
  case round =>
    obtain ⟨lf, cnt, rg, ts, fr⟩ := hrel
    have hu := Tryz.underlying185
    have cp := fr.same (k := p) (by simp; omega) d2.cells
    go_wp2_with (first
      | (refine wp_next rfl _ rfl bo w1.heap.size O lf cnt rfl rg ?_ ?_)
      | go_in)
    · intro hdone
      have c4' : wr.cell? ⟨p, 4, none⟩ = some (.map (some bo)) := by rw [cell_of_row wr p 4 _ _ _ cp]; rfl
      have to := rg.tab
      go_wp2_with (first
        | (refine wp_clear rfl _ rfl bo O rfl to ?_; intro w5 t5 f5)
        | go_in)
      go_ret
      have d5 : Dev w5 p bs bo n (left a) false (over S O) Tab.none := { d2 with cells := f5.same (by simp; exact ne2) cp, safe := by rw [← mix_end hdone]; exact ts.kept f5 (by simp; exact ne3), opn := t5 }
      exact ⟨rfl, d5, ((((f1.mono (M := [p, bs, bo]) (fun i _ hm => by simp at hm ⊢; exact Or.inl hm)).then f2 (by simp)).then fr (fun i hi hm => by have := f1.size; simp at hm ⊢; omega)).then f5 (fun i hi hm => by simp at hm ⊢; omega))⟩
    · intro x l w3 cnt3 hO _ rg3 hcnt f3 hen
      have hl := rg.tab.len hO
      have hx := rg.tab.key hO
      obtain ⟨hx0, hx1⟩ := hx
      have cp3 := f3.same (k := p) (by simp; omega) cp
      have ts3 := ts.kept f3 (by simp; omega)
      have hlt3 := ts3.lt
      have sz3 := f3.size
      have szr := fr.size
      go_wp2_with (first
        | (refine wp_alloc72 rfl rfl ?_; intro w4 b4 f4 s4)
        | (refine wp_store72 rfl _ _ rfl _ zeros l rfl rfl b4 zeros_length hl ?_; intro w5 b5 f5)
        | go_in)
      have sz4 := f4.size
      have cp5 := f5.same (k := p) (by simp; omega) (f4.same (by simp) cp3)
      have ts5 := (ts3.kept f4 (by simp)).kept f5 (by simp; omega)
      have c3 : w5.cell? ⟨p, 3, none⟩ = some (.map (some bs)) := by rw [cell_of_row w5 p 3 _ _ _ cp5]; rfl
      have hi : (Tryz.prog.info? 185).map (·.size) = some (arr l).toList.length := by rw [size72]; simp [arr, hl]
      have hln : (arr l).toList.length = 512 := by simp [arr, hl]
      have hon := arr_one l
      have hrg : w5.rangeAt w3.heap.size 0 (arr l).toList := fun j v hv => b5.src j v hv
      have ts5d : tabAt w5.drew bs (mix lf S O) := ts5.block rfl
      obtain ⟨w6, hrun, t6, f6⟩ := run_tab_put ts5d hx0 hx1 hl
      have cp6 := f6.same (k := p) (by simp; omega) (show w5.drew.heap[p]? = _ from cp5)
      have k3 : w6.cell? ⟨p, 3, none⟩ = some (.map (some bs)) := by rw [cell_of_row w6 p 3 _ _ _ cp6]; rfl
      have b6 : Blk w6 w3.heap.size 185 l := f6.same (by simp; omega) (show w5.drew.heap[w3.heap.size]? = _ from b5)
      have kr : w6.rangeAt w3.heap.size 0 (arr l).toList := fun j v hv => b6.src j v hv
      go_region_held3 (fun w' => w'.cell? ⟨p, 3, none⟩ = some (.map (some bs)) ∧ w'.rangeAt w3.heap.size 0 (arr l).toList) (first | exact ⟨k3, kr⟩ | go_keep_ranges) (fail)
      clear hrun hen hi hln hon c3 k3 hrg kr
      have f56 : Fr [bs] w5 w6 := (Fr.refl [bs] w5).drew.trans f6
      have rg6 : Rng w6 bo w1.heap.size O (strike lf x) cnt3 := ((rg3.kept f4 (by simp) (by simp)).kept f5 (by simp; omega) (by simp; omega)).kept f56 (by simp; omega) (by simp; omega)
      have fr6 : Fr [bs, w1.heap.size] w2 w6 := (((fr.then f3 (fun i hi hm => by simp at hm ⊢; omega)).then f4 (by simp)).then f5 (fun i hi hm => by simp at hm ⊢; omega)).then f56 (fun i hi hm => by simp at hm ⊢; omega)
      go_wp2
      go_roundw
      case rel => exact ⟨_, cnt3, rg6, by rw [← mix_step hO]; exact t6, fr6⟩
      case measure => rw [rg6.measure, rg.measure]; exact hcnt

end Go.Proofs.YtopaeomjndblkaaGreat.Dv

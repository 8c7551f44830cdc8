/-
  A frame put into the ring, in another one's place, or a spare one.
-/
import Derived.Test.YtopaeomjndblkaaGreatW00Z
import Derived.Test.YtopaeomjndblkaaGreatQRowL
import Derived.Maps.AppendAt
namespace Go.Proofs.YtopaeomjndblkaaGreat
open Go.RowKit Go.Maps

theorem infoPF : (Tryz.prog.info? 159).map (fun i => (i.zero, i.size, i.bytes)) = some (some (.pointer none), 1, 8) := by kernel_rfl
theorem infoPF' : ∃ i, Tryz.prog.info? 159 = some i ∧ i.zero = some (.pointer none) ∧ i.size = 1 ∧ i.bytes = 8 := by
  have h := infoPF
  cases hi : Tryz.prog.info? 159 with
  | none => rw [hi] at h; cases h
  | some i =>
    rw [hi] at h
    simp at h
    exact ⟨i, rfl, h.1, h.2.1, h.2.2⟩
section
variable {ops : Array Oper} {rest : List Oper} {o : Oper} {a : Act} {w : World} {Q : Exit → Act → World → Prop}
/-- append of a frame to a row of frames. -/
theorem wp_appF (hgd : o.guard = none) (s x : Operand) (ho : o.op = .call { callee := .builtin .append, args := #[s, x], argTypes := #[155, 155] }) (ad : Option Addr) (n c : Nat) (fs : List Fm) (b : Nat) (f : Fm) (hs : a.eval s = .slice ad n c) (hx : a.eval x = .slice (some ⟨b, 0, none⟩) 1 1)
    (hown : w.ownsRow 0 159 1 (.slice ad n c) n (slV fs)) (hb : w.heap[b]? = some (.cells #[.pointer (some ⟨f.b, 0, none⟩)] 159)) (hm : n + 1 ≤ 1000000)
    (h : ∀ g c' w', w'.ownsRow 0 159 1 (.slice (some ⟨g, 0, none⟩) (n + 1) c') (n + 1) (slV (fs ++ [f])) → Fr (Value.ownBlock (.slice ad n c)).toList w w' → NewOr ad n c g w.heap.size → wpList Tryz.prog ops Q rest (a.put o.dst (.slice (some ⟨g, 0, none⟩) (n + 1) c')) w') : wpList Tryz.prog ops Q (o :: rest) a w :=
  wpList_plain hgd fun K hK => by
    obtain ⟨i, hi, hz, hsz, hbb⟩ := infoPF'
    obtain ⟨v', w', hrun, h2, h3, h4, h5⟩ := run_append_own_at (P := Tryz.prog) w 0 155 o.type 159 i (.pointer none) 1 8 Tryz.underlying155 hi hz hsz hbb rfl (by omega) _ n (slV fs) hown ⟨b, 0, none⟩ 1 1 [.pointer (some ⟨f.b, 0, none⟩)] (by simp)
      (by
        intro j x hx
        cases j with
        | zero =>
          simp at hx
          subst hx
          rw [Addr.add_mid]
          exact cell_of_row w b 0 _ _ _ hb
        | succ j => simp at hx) (by intro x hx; simp at hx; subst hx; rfl) (by unfold maxLen; omega) (by omega) (Nat.zero_le _)
    rcases h2.2 with ⟨e, hn0⟩ | ⟨g, c', cur, e, r⟩
    · omega
    · subst e
      have h2' : w'.ownsRow 0 159 1 (.slice (some ⟨g, 0, none⟩) (n + 1) c') (n + 1) (slV (fs ++ [f])) := by
        unfold slV
        rw [List.map_append]
        exact h2
      unfold Oper.wp execOp
      simp [ho, resolve, invoke, builtin, hs, hx, hrun, Result.andThen]
      exact hK _ _ (h _ _ _ h2' ((Fr.refl _ _).grown h3 (fun j e _ => by simp [e])) (new_of h5))
end
set_option maxHeartbeats 2000000 in
theorem add_any {w : World} {rp : Nat} {sa : Option Addr} {sc hand : Nat} {fs : List Fm} (h : Rn w rp sa sc hand fs) (hm : fs.length < 1024) {f : Fm} (hf : FAt w f) (hb : f.b ∉ fs.map (·.b)) :
    Calls Tryz.prog 248 #[.pointer (some ⟨rp, 0, none⟩), .pointer (some ⟨f.b, 0, none⟩)] w fun e w' => e = .returned (.tuple #[]) ∧ ∃ g c', Rn w' rp (some ⟨g, 0, none⟩) c' hand (fs ++ [f]) ∧ NewOr sa fs.length sc g w.heap.size ∧ Fr (rp :: (Value.ownBlock (.slice sa fs.length sc)).toList) w w' := by
  have c0 := h.r0
  have HR := hidI h
  have HF := hidI hf
  have hne := h.rp_ne
  obtain ⟨n, HN⟩ : ∃ n, Hid (fs.length = n) := ⟨_, rfl⟩
  rw [HN.out] at c0 hm ⊢
  rw [HN.out] at hne
  clear h
  have fa : Fr [] w (w.alloc (.cells #[.pointer (some ⟨f.b, 0, none⟩)] 159)) := (Fr.refl [] w).alloc _
  have RA := hidI (HR.out.kept fa (by simp))
  have FA := hidI (HF.out.kept fa (by simp))
  have SL : Hid ((w.alloc (.cells #[.pointer (some ⟨f.b, 0, none⟩)] 159)).ownsRow 0 159 1 (.slice sa n sc) n (slV fs)) := hidI (by have := RA.out.slots; rw [HN.out] at this; exact this)
  have hrr : rp ∉ (Value.ownBlock (.slice sa n sc)).toList := fun e => hne.1 rp e rfl
  have RK : Hid (∀ w2, Fr (Value.ownBlock (.slice sa n sc)).toList (w.alloc (.cells #[.pointer (some ⟨f.b, 0, none⟩)] 159)) w2 → w2.heap[rp]? = some (.cells #[.slice sa n sc, .int .i64 (hand : Int)] 157)) := hidI (fun w2 f2 => by have := f2.same hrr RA.out.ring; rw [HN.out] at this; exact this)
  go_enter Tryz.func248, Tryz.ntmps248
  go_wp2_with (refine wp_appF rfl _ _ rfl sa n sc fs w.heap.size f rfl rfl SL.out (heap_alloc_new w _) (by omega) ?_; intro g c' w2 own2 f2 n2; have r2 := RK.out w2 f2; have d0 := cell_of_row w2 rp 0 _ _ _ r2; have z0 := frozen_of_row w2 rp 0 _ _ r2)
  go_end0
  have hsz := fa.size
  have fT : Fr (rp :: (Value.ownBlock (.slice sa n sc)).toList) w w2 := (fa.mono (fun _ _ e => nomatch e)).trans (f2.mono (fun k _ hk => List.mem_cons_of_mem _ hk))
  have own3 : (w2.setCell ⟨rp, 0, none⟩ (.slice (some ⟨g, 0, none⟩) (n + 1) c')).ownsRow 0 159 1 (.slice (some ⟨g, 0, none⟩) (n + 1) c') (n + 1) (slV (fs ++ [f])) := own_kb own2 (fr_set _ _ _ _) (by
    intro g' hg' e
    simp [Value.ownBlock] at hg' e
    subst hg'
    subst e
    rcases own2.2 with ⟨e, _⟩ | ⟨g2, _, cur, e, _, hg2, _⟩
    · cases e
    · cases e
      rw [r2] at hg2
      simp at hg2)
  have hlen : (fs ++ [f]).length = n + 1 := by rw [List.length_append, HN.out]; rfl
  refine ⟨rfl, g, c', ⟨?_, ?_, ?_, ?_⟩, n2.imp id (fun h1 => by omega), fT.setCell _ _ (fun _ => List.mem_cons_self)⟩
  · rw [hlen]
    exact heap_setCell_same w2 rp 0 _ _ _ r2
  · rw [hlen]
    exact own3
  · intro x hx
    have fr3 : Fr (rp :: (Value.ownBlock (.slice sa n sc)).toList) (w.alloc (.cells #[.pointer (some ⟨f.b, 0, none⟩)] 159)) (w2.setCell ⟨rp, 0, none⟩ (.slice (some ⟨g, 0, none⟩) (n + 1) c')) := (f2.mono (fun k _ hk => List.mem_cons_of_mem _ hk)).setCell _ _ (fun _ => List.mem_cons_self)
    have key : ∀ x, FAt (w.alloc (.cells #[.pointer (some ⟨f.b, 0, none⟩)] 159)) x → FAt (w2.setCell ⟨rp, 0, none⟩ (.slice (some ⟨g, 0, none⟩) (n + 1) c')) x := by
      intro x hx
      refine hx.kept fr3 ?_
      intro e
      rcases List.mem_cons.1 e with e | e
      · exact hx.tyne RA.out.ring (by decide) e
      · rcases SL.out.2 with ⟨ev, _⟩ | ⟨g2, _, cur, ev, _, hg2, _⟩
        · rw [ev] at e
          simp [Value.ownBlock] at e
        · rw [ev] at e
          simp [Value.ownBlock] at e
          exact hx.tyne hg2 (by decide) e
    rcases List.mem_append.1 hx with hx | hx
    · exact key x (RA.out.frames x hx)
    · simp at hx
      subst hx
      exact key x FA.out
  · rw [List.map_append, List.nodup_append]
    exact ⟨RA.out.nod, by simp, fun a ha b hb' e => by simp at hb'; subst hb'; exact hb (e ▸ ha)⟩
end Go.Proofs.YtopaeomjndblkaaGreat

namespace Go.Proofs.YtopaeomjndblkaaGreat
open Go.RowKit Go.Maps

/-- A pool's fields. -/
structure Pf where
  d : Nat
  p : Nat
  start : Nat
  pages : Nat
  most : Nat
  rp : Nat
  mp : Nat
def PBox' (w : World) (pp : Nat) (x : Pf) : Prop := w.heap[pp]? = some (.cells #[.pointer (some ⟨x.d, 0, none⟩), .pointer (some ⟨x.p, 0, none⟩), .int .i64 (x.start : Int), .int .i64 (x.pages : Int), .int .i64 (x.most : Int), .pointer (some ⟨x.rp, 0, none⟩), .map (some x.mp)] 148)
theorem PBox'.kept {w w' : World} {pp : Nat} {x : Pf} {L : List Nat} (h : PBox' w pp x) (f : Fr L w w') (hp : pp ∉ L) : PBox' w' pp x := f.same hp h
theorem PBox'.c0 {w : World} {pp : Nat} {x : Pf} (h : PBox' w pp x) : w.cell? ⟨pp, 0, none⟩ = some (.pointer (some ⟨x.d, 0, none⟩)) := cell_of_row w pp 0 _ _ _ h
theorem PBox'.c1 {w : World} {pp : Nat} {x : Pf} (h : PBox' w pp x) : w.cell? ⟨pp, 1, none⟩ = some (.pointer (some ⟨x.p, 0, none⟩)) := cell_of_row w pp 1 _ _ _ h
theorem PBox'.c2 {w : World} {pp : Nat} {x : Pf} (h : PBox' w pp x) : w.cell? ⟨pp, 2, none⟩ = some (.int .i64 (x.start : Int)) := cell_of_row w pp 2 _ _ _ h
theorem PBox'.c3 {w : World} {pp : Nat} {x : Pf} (h : PBox' w pp x) : w.cell? ⟨pp, 3, none⟩ = some (.int .i64 (x.pages : Int)) := cell_of_row w pp 3 _ _ _ h
theorem PBox'.c4 {w : World} {pp : Nat} {x : Pf} (h : PBox' w pp x) : w.cell? ⟨pp, 4, none⟩ = some (.int .i64 (x.most : Int)) := cell_of_row w pp 4 _ _ _ h
theorem PBox'.c5 {w : World} {pp : Nat} {x : Pf} (h : PBox' w pp x) : w.cell? ⟨pp, 5, none⟩ = some (.pointer (some ⟨x.rp, 0, none⟩)) := cell_of_row w pp 5 _ _ _ h
theorem PBox'.c6 {w : World} {pp : Nat} {x : Pf} (h : PBox' w pp x) : w.cell? ⟨pp, 6, none⟩ = some (.map (some x.mp)) := cell_of_row w pp 6 _ _ _ h
theorem PBox'.ne {w : World} {pp : Nat} {x : Pf} (h : PBox' w pp x) {k : Nat} (hk : ∀ cur t, w.heap[k]? = some (.cells cur t) → t ≠ 148) : pp ≠ k := by
  intro e
  subst e
  exact hk _ _ h rfl

set_option maxHeartbeats 1000000 in
theorem spare_any {w : World} {pp : Nat} {x : Pf} (h : PBox' w pp x) {sa : Option Addr} {sc hand : Nat} {fs : List Fm} (r : Rn w x.rp sa sc hand fs) :
    Calls Tryz.prog 245 #[.pointer (some ⟨pp, 0, none⟩)] w fun e w' => ∃ nq, e = .returned (.bool (decide (fs.length < x.most))) ∧ w' = w.drewN nq := by
  have c5 := h.c5
  have c4 := h.c4
  have r0 := r.r0
  by_cases hl : fs.length < x.most
  · have q : (fs.length : Int) < (x.most : Int) := by omega
    rw [decide_eq_true hl]
    go_enter Tryz.func245, Tryz.ntmps245
    go_wp2
    go_quiet (fail)
    go_wp2
    go_ret
    exact ⟨_, rfl, rfl⟩
  · have q : ¬ (fs.length : Int) < (x.most : Int) := by omega
    rw [decide_eq_false hl]
    go_enter Tryz.func245, Tryz.ntmps245
    go_wp2
    go_quiet (fail)
    go_wp2
    go_ret
    exact ⟨_, rfl, rfl⟩
theorem dirty_any {w : World} {f : Fm} (h : FAt w f) : Calls Tryz.prog 187 #[.pointer (some ⟨f.b, 0, none⟩)] w fun e w' => e = .returned (.bool (decide (0 < f.fst))) ∧ w' = w := by
  have c4 := h.c4
  by_cases hl : 0 < f.fst
  · rw [decide_eq_true hl]
    go_enter Tryz.func187, Tryz.ntmps187
    go_wp2
    go_ret
    exact ⟨rfl, rfl⟩
  · rw [decide_eq_false hl]
    go_enter Tryz.func187, Tryz.ntmps187
    go_wp2
    go_ret
    exact ⟨rfl, rfl⟩
theorem FAt.src {w : World} {f : Fm} (h : FAt w f) : Dv.Src w f.b 1 f.l := by
  intro j v hv
  obtain ⟨b, o, e, hc⟩ := h.bytes j v hv
  cases e
  exact hc

set_option maxHeartbeats 1000000 in
theorem pwrite_any {w : World} {pp : Nat} {x : Pf} (h : PBox' w pp x) {bs bo : Nat} {nb : Int} {S O : Dv.Tab} (hd : Dv.Dev w x.d bs bo nb 0 false S O) {f : Fm} (hf : FAt w f) (hk : (x.start : Int) + (f.pg : Int) < nb) :
    Calls Tryz.prog 173 #[.pointer (some ⟨pp, 0, none⟩), .pointer (some ⟨f.b, 0, none⟩)] w fun e w' => e = .returned (.int .i64 0) ∧ Dv.Dev w' x.d bs bo nb 0 false S (Dv.Tab.put O ((x.start : Int) + (f.pg : Int)) f.l) ∧ FAt w' { f with fst := 0 } ∧ Fr [x.d, bo, f.b] w w' := by
  have n2 := hd.n2
  have c0 := h.c0
  have c2 := h.c2
  have f0 := hf.c0
  have HD := hidI hd
  have HF := hidI hf
  have hw : IntKind.i64.wrap ((x.start : Int) + (f.pg : Int)) = (x.start : Int) + (f.pg : Int) := wrapI _ (by omega) (by omega)
  have hfd : f.b ∉ [x.d, bo] := by
    simp only [List.mem_cons, List.not_mem_nil, or_false, not_or]
    refine ⟨hf.tyne hd.cells (by decide), ?_⟩
    intro e
    obtain ⟨D', ⟨es, clock, hb, _⟩, _⟩ := hd.opn
    have := hf.at'
    rw [e, hb] at this
    cases this
  clear hd h hf
  go_enter Tryz.func173, Tryz.ntmps173
  go_wp2_with fail
  go_region_law ((go_simp; go_at_call 129; refine (Dv.write_dev (dev_kept HD.out (Fr.refl [] w).drew (by simp) (by simp) (by simp)) ((x.start : Int) + (f.pg : Int)) (by omega) hk f.b 1 512 f.l HF.out.len (HF.out.kept (Fr.refl [] w).drew (by simp)).src).mono ?_; rintro e w3 ⟨rfl, D3, f3⟩))
  all_goals
    have g3 : Fr [x.d, bo] w w3 := (Fr.refl _ w).drew.trans (fr_dv f3)
    have F3 := HF.out.kept g3 hfd
    have f4 := F3.c4
    have z4 := F3.fz 515
    have F4 := hidI (F3.s4 0)
    have D4 := hidI (dev_kept D3 (fr_set w3 f.b 515 (.int .i64 0)) (by simpa using fun e : x.d = f.b => hfd (by simp [e])) (by simp; intro e; have h1 := F3.at'; rw [← e] at h1; obtain ⟨D', ⟨es, clock, hb, _⟩, _⟩ := D3.safe; rw [hb] at h1; cases h1) (by simpa using fun e : bo = f.b => hfd (by simp [e])))
    have G4 := hidI ((g3.mono (M := [x.d, bo, f.b]) (by simp; omega)).trans ((fr_set w3 f.b 515 (.int .i64 0)).mono (by intro k _ hk; simp at hk; simp [hk])))
    clear D3 F3 f3 g3
    rw [show Dv.told (Dv.crash 0) = 0 from rfl]
    go_wp2_with fail
    go_ret
    exact ⟨rfl, D4.out, F4.out, G4.out⟩
end Go.Proofs.YtopaeomjndblkaaGreat

namespace Go.Proofs.YtopaeomjndblkaaGreat
open Go.RowKit Go.Maps

/-- A row of pointers to frames, as it is read. -/
def PtRow (w : World) (ad : Option Addr) (fs : List Fm) : Prop := ∀ j f, fs[j]? = some f → ∃ g, ad = some ⟨g, 0, none⟩ ∧ w.cell? ⟨g, j, none⟩ = some (.pointer (some ⟨f.b, 0, none⟩))
theorem PtRow.kept {w w' : World} {ad : Option Addr} {fs : List Fm} {L : List Nat} (h : PtRow w ad fs) (f : Fr L w w') (hL : ∀ a, ad = some a → a.block ∉ L) : PtRow w' ad fs := by
  intro j x hx
  obtain ⟨g, rfl, hc⟩ := h j x hx
  refine ⟨g, rfl, ?_⟩
  rw [← hc]
  have hb : w'.heap[g]? = w.heap[g]? := f.block g (block_lt_of_cell hc) (hL _ rfl)
  unfold World.cell?
  simp only [hb]
set_option maxHeartbeats 2000000 in
theorem cover_any {w : World} {pp : Nat} {x : Pf} (h : PBox' w pp x) {y : Lo} (hy : LoAt w y) (hp : x.p = y.p) (ad : Option Addr) (n c : Nat) (fs : List Fm) (hn : fs.length = n) (hm : n ≤ 1024) (hr : PtRow w ad fs) (hf : ∀ f ∈ fs, FAt w f ∧ f.lst ≤ (y.E : Int)) :
    Calls Tryz.prog 172 #[.pointer (some ⟨pp, 0, none⟩), .slice ad n c] w fun e w' => e = .returned (.int .i64 0) ∧ ∃ y', LoAt w' y' ∧ Forced y y' ∧ (∀ f ∈ fs, f.lst ≤ (y'.P : Int)) ∧ (∀ k ∈ y'.own, k ∈ y.own ∨ w.heap.size ≤ k) ∧ Fr [y.p, y.d, y.bs, y.bo] w w' := by
  have HB := hidI h
  have HY := hidI hy
  have HR := hidI hr
  have HFS := hidI hf
  have HN := hidI hn
  clear h hy hr hf hn
  go_enter Tryz.func172, Tryz.ntmps172
  go_wp2_with fail
  go_loopw [9] (fun s9 wr => ∃ (i : Nat), i ≤ n ∧ s9 = .int .i64 (i : Int) ∧ Hid (∀ j f, j < i → fs[j]? = some f → f.lst ≤ (y.P : Int)) ∧ Hid (Fr [] w wr)) (fun s9 _ => n - (intOf s9).toNat)
  case atStart => exact ⟨0, by omega, rfl, hidI (fun j f hj => by omega), hidI (Fr.refl _ _)⟩
  case round =>
    obtain ⟨i, hi, rfl, HI, HF⟩ := hrel
    have Y1 := hidI (HY.out.kept HF.out (by simp))
    have FF := HF.out
    by_cases hlt : i < n
    · have q1 : (i : Int) < (n : Int) := by omega
      have q0 : (0 : Int) ≤ (i : Int) := by omega
      obtain ⟨f, hf⟩ : ∃ f, fs[i]? = some f := ⟨_, List.getElem?_eq_getElem (by have := HN.out; omega)⟩
      obtain ⟨g, rfl, cj⟩ := (HR.out.kept HF.out (by simp)) i f hf
      have hfa := HFS.out f (List.mem_of_getElem? hf)
      have f5 := (hfa.1.kept HF.out (by simp)).c5
      have hfe := hfa.2
      have b1 := (HB.out.kept HF.out (by simp)).c1
      rw [hp] at b1
      have hwi : IntKind.i64.wrap ((i : Int) + 1) = (i : Int) + 1 := wrapI _ (by omega) (by omega)
      by_cases hs : f.lst ≤ (y.P : Int)
      · have q2 : ¬ ((y.P : Int) + 1) ≤ f.lst := by omega
        have q3 : f.lst < (y.P : Int) + 1 := by omega
        clear hfa
        go_wp2_with fail
        go_region_law ((go_simp; go_at_call 85; refine (lo_safe (Y1.out.kept (Fr.refl [] wr).drew (by simp))).mono ?_; rintro e w3 ⟨rfl, hw3⟩; have f53 : w3.cell? ⟨f.b, 516, none⟩ = some (.int .i64 f.lst) := (by rw [hw3]; exact f5)))
        all_goals
          subst hw3
          go_wp2_with fail
          refine ⟨⟨i + 1, by omega, by go_num, hidI (fun j g' hj hg' => ?_), hidI FF.drew⟩, by simp [intOf]; omega⟩
          rcases Nat.lt_succ_iff_lt_or_eq.1 hj with h1 | rfl
          · exact HI.out j g' h1 hg'
          · rw [hf] at hg'
            cases hg'
            exact hs
      · have q2 : ((y.P : Int) + 1) ≤ f.lst := by omega
        have q3 : ¬ f.lst < (y.P : Int) + 1 := by omega
        clear hfa
        go_wp2_with fail
        go_region_law ((go_simp; go_at_call 85; refine (lo_safe (Y1.out.kept (Fr.refl [] wr).drew (by simp))).mono ?_; rintro e w3 ⟨rfl, hw3⟩; have f53 : w3.cell? ⟨f.b, 516, none⟩ = some (.int .i64 f.lst) := (by rw [hw3]; exact f5)))
        all_goals
          subst hw3
          go_wp2_with fail
          refine (lo_force (Y1.out.kept (Fr.refl [] wr).drew (by simp))).mono ?_
          rintro e w4 ⟨rfl, y', L4, F4, hP, hown, f4⟩
          go_wp2_with fail
          go_ret
          refine ⟨rfl, y', L4, F4, fun f' hf' => ?_, fun k hk => (hown k hk).imp id (fun h1 => Nat.le_trans FF.size h1), (FF.mono (fun _ _ e => nomatch e)).trans ((Fr.refl _ wr).drew.trans f4)⟩
          rw [hP]
          exact (HFS.out f' hf').2
    · have q1 : ¬ (i : Int) < (n : Int) := by omega
      go_wp2_with fail
      go_ret
      refine ⟨rfl, y, Y1.out, Forced.refl y, fun f hf => ?_, fun k hk => Or.inl hk, FF.mono (fun _ _ e => nomatch e)⟩
      obtain ⟨j, hj⟩ := List.mem_iff_getElem?.1 hf
      exact HI.out j f (by have h1 := (List.getElem?_eq_some_iff.1 hj).1; have := HN.out; omega) hj
end Go.Proofs.YtopaeomjndblkaaGreat

namespace Go.Proofs.YtopaeomjndblkaaGreat
open Go.RowKit Go.Maps

structure Po where
  y : Lo
  pp : Nat
  rp : Nat
  mp : Nat
  start : Nat
  pages : Nat
  most : Nat
  sa : Option Addr
  sc : Nat
  hand : Nat
  fs : List Fm
def Po.pf (x : Po) : Pf := ⟨x.y.d, x.y.p, x.start, x.pages, x.most, x.rp, x.mp⟩
def ids (fs : List Fm) : List (Nat × Nat) := fs.map fun f => (f.pg, f.b)
/-- The map says just which frame each page is in. -/
structure TabOk (S : PTab) (l : List (Nat × Nat)) : Prop where
  has : ∀ q ∈ l, S (q.1 : Int) = some q.2
  only : ∀ k b, S k = some b → ∃ q ∈ l, (q.1 : Int) = k ∧ q.2 = b
/-- What stands on the device of a page. -/
def pgD (start : Nat) (y : Lo) (q : Nat) : List UInt8 := Dv.latest y.S y.O ((start : Int) + (q : Int))
/-- One frame is as it must be. -/
structure FOk (start pages : Nat) (y : Lo) (f : Fm) : Prop where
  pg : f.pg < pages
  h0 : 0 ≤ f.hd
  h1 : f.hd ≤ 1000000
  f0 : 0 ≤ f.fst
  l0 : 0 ≤ f.lst
  l1 : f.lst ≤ (y.E : Int)
  cl : f.fst = 0 → f.l = pgD start y f.pg
structure PoAt (w : World) (x : Po) : Prop where
  lo : LoAt w x.y
  box : PBox' w x.pp x.pf
  rn : Rn w x.rp x.sa x.sc x.hand x.fs
  mp : ∃ S, pMap w x.mp S ∧ TabOk S (ids x.fs)
  mne : x.mp ≠ x.y.bs ∧ x.mp ≠ x.y.bo
  nod : ((ids x.fs).map (·.1)).Nodup
  ok : ∀ f ∈ x.fs, FOk x.start x.pages x.y f
  hl : x.fs.length ≤ x.most
  m0 : 8 ≤ x.most
  m1 : x.most ≤ 1024
  hh : x.fs.length = x.most → x.hand < x.most
  hh0 : x.fs.length < x.most → x.hand = 0
  p1 : 1 ≤ x.pages
  area : (x.start : Int) + (x.pages : Int) ≤ x.y.nb
  dis : (x.start : Int) + (x.pages : Int) ≤ x.y.first ∨ x.y.first + x.y.count ≤ (x.start : Int)
  hlw : x.y.lw ≤ (x.start : Int)
/-- The blocks that are its own (but for the pool's, which never changes). -/
def Po.own (x : Po) : List Nat := x.mp :: (ownR x.rp x.sa x.fs ++ x.y.own)
theorem PoAt.d1 {w : World} {x : Po} (h : PoAt w x) : ∀ k ∈ ownR x.rp x.sa x.fs, k ∉ x.y.own := by
  intro k hk hy
  obtain ⟨cur, t, hc, ht⟩ := h.rn.types k hk
  have h2 := (h.lo.types k hy).2 cur t hc
  rcases ht with rfl | rfl | rfl <;> exact absurd h2 (by decide)
theorem PoAt.d2 {w : World} {x : Po} (h : PoAt w x) : x.mp ∉ ownR x.rp x.sa x.fs := by
  intro hk
  obtain ⟨S, hm, _⟩ := h.mp
  obtain ⟨cur, t, hc, _⟩ := h.rn.types _ hk
  exact hm.notcells _ _ hc
theorem PoAt.d3 {w : World} {x : Po} (h : PoAt w x) : x.mp ∉ x.y.own := by
  intro hk
  obtain ⟨S, hm, _⟩ := h.mp
  have hn := hm.notcells
  simp only [Lo.own, List.mem_append, List.mem_cons, List.not_mem_nil, or_false] at hk
  rcases hk with (e | e | e | e) | hk | hk
  · have h1 := h.lo.box
    unfold LBox at h1
    rw [← e] at h1
    exact hn _ _ h1
  · have h1 := h.lo.dev.cells
    rw [← e] at h1
    exact hn _ _ h1
  · exact h.mne.1 e
  · exact h.mne.2 e
  · obtain ⟨cur', hc⟩ := own0_type h.lo.bsA _ hk
    exact hn _ _ hc
  · obtain ⟨cur', hc⟩ := own0_type h.lo.lsA _ hk
    exact hn _ _ hc
theorem PoAt.d4 {w : World} {x : Po} (h : PoAt w x) : x.pp ∉ x.own := by
  intro hk
  simp only [Po.own, List.mem_cons, List.mem_append] at hk
  rcases hk with e | hk | hk
  · obtain ⟨S, hm, _⟩ := h.mp
    have h1 := h.box
    unfold PBox' at h1
    rw [e] at h1
    exact hm.notcells _ _ h1
  · obtain ⟨cur, t, hc, ht⟩ := h.rn.types _ hk
    have h1 := h.box
    unfold PBox' at h1
    rw [hc] at h1
    cases h1
    rcases ht with e | e | e <;> exact absurd e (by decide)
  · have h1 := (h.lo.types _ hk).2 _ _ h.box
    exact absurd h1 (by decide)
theorem PoAt.lt {w : World} {x : Po} (h : PoAt w x) : ∀ k ∈ x.pp :: x.own, k < w.heap.size := by
  intro k hk
  simp only [Po.own, List.mem_cons, List.mem_append] at hk
  rcases hk with rfl | rfl | hk | hk
  · exact (Array.getElem?_eq_some_iff.1 h.box).1
  · obtain ⟨S, hm, _⟩ := h.mp
    exact hm.lt
  · exact h.rn.lt k hk
  · exact (h.lo.types k hk).1
theorem PoAt.kept {w w' : World} {x : Po} {L : List Nat} (h : PoAt w x) (f : Fr L w w') (hL : ∀ k ∈ x.pp :: x.own, k ∉ L) : PoAt w' x :=
  { h with
    lo := h.lo.kept f (fun k hk => hL k (by simp only [Po.own, List.mem_cons, List.mem_append]; exact Or.inr (Or.inr (Or.inr hk))))
    box := h.box.kept f (hL _ List.mem_cons_self)
    rn := h.rn.kept f (fun k hk => hL k (by simp only [Po.own, List.mem_cons, List.mem_append]; exact Or.inr (Or.inr (Or.inl hk))))
    mp := by
      obtain ⟨S, hm, ht⟩ := h.mp
      exact ⟨S, hm.kept f (hL _ (by simp [Po.own])), ht⟩ }
/-- A step of a pool: what it is behind it, and which memory has changed. -/
structure Step (w w' : World) (x x' : Po) : Prop where
  at' : PoAt w' x'
  fr : Fr x.own w w'
  ow : ∀ k ∈ x'.own, k ∈ x.own ∨ w.heap.size ≤ k
theorem Step.trans {w w1 w2 : World} {x x1 x2 : Po} (h : Step w w1 x x1) (k : Step w1 w2 x1 x2) : Step w w2 x x2 :=
  ⟨k.at', h.fr.then k.fr (fun i hi hm => (h.ow i hm).resolve_right (by omega)), fun i hi => (k.ow i hi).elim (fun h1 => h.ow i h1) (fun h1 => Or.inr (Nat.le_trans h.fr.size h1))⟩
/-- What a log and its device have in common behind whatever the pool does. -/
structure Kin (y y' : Lo) : Prop where
  d : y'.d = y.d
  bs : y'.bs = y.bs
  bo : y'.bo = y.bo
  nb : y'.nb = y.nb
  p : y'.p = y.p
  first : y'.first = y.first
  count : y'.count = y.count
  T : y'.T = y.T
  A : y'.A = y.A
  E : y'.E = y.E
  P : y.P ≤ y'.P
  lw : y'.lw = y.lw
  ls : y'.ls = y.ls
  n2 : y'.n2 = y.n2
  lb : ∀ k, y.A ≤ k → y'.lb.drop (k - y'.F) = y.lb.drop (k - y.F)
  low : ∀ k : Int, k < y.lw → Dv.latest y'.S y'.O k = Dv.latest y.S y.O k
theorem Kin.refl (y : Lo) : Kin y y := ⟨rfl, rfl, rfl, rfl, rfl, rfl, rfl, rfl, rfl, rfl, Nat.le_refl _, rfl, rfl, rfl, fun _ _ => rfl, fun _ _ => rfl⟩
theorem Kin.trans {a b c : Lo} (h : Kin a b) (k : Kin b c) : Kin a c := ⟨k.d.trans h.d, k.bs.trans h.bs, k.bo.trans h.bo, k.nb.trans h.nb, k.p.trans h.p, k.first.trans h.first, k.count.trans h.count, k.T.trans h.T, k.A.trans h.A, k.E.trans h.E, Nat.le_trans h.P k.P, k.lw.trans h.lw, k.ls.trans h.ls, k.n2.trans h.n2, fun i hi => (k.lb i (by rw [h.A]; exact hi)).trans (h.lb i hi), fun i hi => (k.low i (by rw [h.lw]; exact hi)).trans (h.low i hi)⟩
theorem Forced.kin {y y' : Lo} (h : Forced y y') : Kin y y' := ⟨h.d, h.bs, h.bo, h.nb, h.p, h.first, h.count, h.T, h.A, h.E, h.P, h.lw, h.ls, h.n2, h.lb, h.low⟩
theorem Forced.pg {y y' : Lo} (h : Forced y y') {start pages : Nat} (hd : (start : Int) + (pages : Int) ≤ y.first ∨ y.first + y.count ≤ (start : Int)) {q : Nat} (hq : q < pages) : pgD start y' q = pgD start y q := h.out _ (by omega)
theorem FOk.turn {start pages : Nat} {y y' : Lo} {f : Fm} (h : FOk start pages y f) (k : Kin y y') (e : pgD start y' f.pg = pgD start y f.pg) : FOk start pages y' f :=
  { h with l1 := by rw [k.E]; exact h.l1, cl := fun h0 => by rw [e]; exact h.cl h0 }
theorem latest_put (S O : Dv.Tab) (k j : Int) (l : List UInt8) : Dv.latest S (Dv.Tab.put O k l) j = if j = k then l else Dv.latest S O j := by
  unfold Dv.latest Dv.Tab.put
  by_cases e : j = k <;> simp [e]
theorem latest_sync (S O : Dv.Tab) (k : Int) : Dv.latest (Dv.over S O) Dv.Tab.none k = Dv.latest S O k := by
  unfold Dv.latest Dv.over Dv.Tab.none Dv.Tab.get
  cases e : O k <;> simp [e]
theorem Kin.put {y y' : Lo} (h : Kin y y') {k : Int} {l : List UInt8} (hk : y.lw ≤ k) : Kin y { y' with O := Dv.Tab.put y'.O k l } := by
  refine { h with low := fun j hj => ?_ }
  show Dv.latest y'.S (Dv.Tab.put y'.O k l) j = _
  rw [latest_put, if_neg (by omega)]
  exact h.low j hj
theorem Kin.sync {y y' : Lo} (h : Kin y y') : Kin y { y' with S := Dv.over y'.S y'.O, O := Dv.Tab.none } := by
  refine { h with low := fun j hj => ?_ }
  show Dv.latest (Dv.over y'.S y'.O) Dv.Tab.none j = _
  rw [latest_sync]
  exact h.low j hj
end Go.Proofs.YtopaeomjndblkaaGreat

namespace Go.Proofs.YtopaeomjndblkaaGreat
open Go.RowKit Go.Maps

def Po.saved (x : Po) (y' : Lo) (j : Nat) (f : Fm) : Po := { x with y := y', fs := x.fs.set j { f with fst := 0 } }
theorem ids_set {fs : List Fm} {j : Nat} {f f' : Fm} (h : fs[j]? = some f) (hp : f'.pg = f.pg) (hb : f'.b = f.b) : ids (fs.set j f') = ids fs := by
  unfold ids
  rw [List.map_set]
  exact set_same (by simp [h, hp, hb])
theorem pg_ne {fs : List Fm} (h : ((ids fs).map (·.1)).Nodup) {i j : Nat} {x f : Fm} (hx : fs[i]? = some x) (hf : fs[j]? = some f) (hij : i ≠ j) : x.pg ≠ f.pg := by
  have h1 : ∀ i j : Nat, i < j → ∀ x f : Fm, fs[i]? = some x → fs[j]? = some f → x.pg ≠ f.pg := by
    intro i j hlt x f hx hf
    obtain ⟨hi, rfl⟩ := List.getElem?_eq_some_iff.1 hx
    obtain ⟨hj, rfl⟩ := List.getElem?_eq_some_iff.1 hf
    have := List.pairwise_iff_getElem.1 h i j (by simpa [ids] using hi) (by simpa [ids] using hj) hlt
    simpa [ids] using this
  rcases Nat.lt_or_gt_of_ne hij with h2 | h2
  · exact h1 i j h2 x f hx hf
  · exact (h1 j i h2 f x hf hx).symm
theorem own_b {x : Po} {j : Nat} {f : Fm} (h : x.fs[j]? = some f) : f.b ∈ x.own := by
  simp only [Po.own, ownR, List.mem_cons, List.mem_append, List.mem_map]
  exact Or.inr (Or.inl (Or.inr (Or.inr ⟨f, List.mem_of_getElem? h, rfl⟩)))
theorem ownR_set {rp : Nat} {sa : Option Addr} {fs : List Fm} {j : Nat} {f f' : Fm} (h : fs[j]? = some f) (hb : f'.b = f.b) : ownR rp sa (fs.set j f') = ownR rp sa fs := by
  unfold ownR
  rw [map_b h hb]
set_option maxHeartbeats 2000000 in
theorem save_any {w : World} {x : Po} (h : PoAt w x) {j : Nat} {f : Fm} (hj : x.fs[j]? = some f) :
    Calls Tryz.prog 249 #[.pointer (some ⟨x.pp, 0, none⟩), .pointer (some ⟨f.b, 0, none⟩)] w fun e w' => e = .returned (.int .i64 0) ∧ ∃ y', Step w w' x (x.saved y' j f) ∧ Kin x.y y' ∧ (∀ q, q < x.pages → q ≠ f.pg → pgD x.start y' q = pgD x.start x.y q) ∧ pgD x.start y' f.pg = f.l ∧ (0 < f.fst → f.lst ≤ (y'.P : Int)) := by
  have hm := List.mem_of_getElem? hj
  have hfa := h.rn.frames f hm
  have hok := h.ok f hm
  have HH := hidI h
  have HFA := hidI hfa
  by_cases hd : 0 < f.fst
  · have hdt : decide (0 < f.fst) = true := decide_eq_true hd
    have fa : Fr [] w (w.alloc (.cells #[.pointer (some ⟨f.b, 0, none⟩)] 159)) := (Fr.refl [] w).alloc _
    have hnew := hidI (heap_alloc_new w (.cells #[.pointer (some ⟨f.b, 0, none⟩)] 159))
    have H1 := hidI (h.kept fa (by simp))
    have FA1 := hidI (hfa.kept fa (by simp))
    clear h hfa
    go_enter Tryz.func249, Tryz.ntmps249
    go_wp2_with (go_at_call 187; refine (dirty_any HFA.out).mono ?_; rw [hdt]; rintro e wz ⟨rfl, hz⟩; rw [hz]; clear hz)
    generalize w.alloc (.cells #[.pointer (some ⟨f.b, 0, none⟩)] 159) = w1 at fa hnew H1 FA1 ⊢
    refine (cover_any H1.out.box H1.out.lo rfl (some ⟨w.heap.size, 0, none⟩) 1 1 [f] rfl (by omega) (fun i g hg => ?_) (fun g hg => ?_)).mono ?_
    · cases i with
      | zero =>
        simp at hg
        subst hg
        exact ⟨_, rfl, cell_of_row w1 _ 0 _ _ _ hnew.out⟩
      | succ i => simp at hg
    · simp at hg
      subst hg
      exact ⟨FA1.out, hok.l1⟩
    · rintro e w2 ⟨rfl, y', L2, FO, hP, hown, f2⟩
      have hL4 : ∀ k ∈ [x.y.p, x.y.d, x.y.bs, x.y.bo], k ∈ x.y.own := by
        intro k hk
        simp only [Lo.own, List.mem_append]
        exact Or.inl hk
      have B2 := H1.out.box.kept f2 (fun e => H1.out.d4 (by simp only [Po.own, List.mem_cons, List.mem_append]; exact Or.inr (Or.inr (hL4 _ e))))
      have hfo : f.b ∈ ownR x.rp x.sa x.fs := by simp only [ownR, List.mem_cons, List.mem_append, List.mem_map]; exact Or.inr (Or.inr ⟨f, hm, rfl⟩)
      have F2 := FA1.out.kept f2 (fun e => H1.out.d1 _ hfo (hL4 _ e))
      have R2 := H1.out.rn.kept f2 (fun k hk e => H1.out.d1 k hk (hL4 _ e))
      have D2 : Dv.Dev w2 x.pf.d y'.bs y'.bo y'.nb 0 false y'.S y'.O := by rw [show x.pf.d = y'.d from FO.d.symm]; exact L2.dev
      have hkn : (x.pf.start : Int) + (f.pg : Int) < y'.nb := by
        have h1 := H1.out.area
        have h2 := hok.pg
        rw [FO.nb]
        show (x.start : Int) + (f.pg : Int) < x.y.nb
        omega
      have M2 : ∃ S, pMap w2 x.mp S ∧ TabOk S (ids x.fs) := by
        obtain ⟨S, hm2, ht⟩ := H1.out.mp
        exact ⟨S, hm2.kept f2 (fun e => H1.out.d3 (hL4 _ e)), ht⟩
      have HL2 := hidI L2
      have HR2 := hidI R2
      have HB2 := hidI B2
      have HD2 := hidI D2
      have HF2 := hidI F2
      clear L2 R2 D2 F2 B2
      go_wp2_with fail
      refine (pwrite_any HB2.out HD2.out HF2.out hkn).mono ?_
      rintro e w3 ⟨rfl, D3, F3, f3⟩
      go_wp2_with fail
      go_ret
      have hbo : ∀ S, pMap w2 x.mp S → x.mp ∉ [x.pf.d, y'.bo, f.b] := by
        intro S hS e
        simp only [List.mem_cons, List.not_mem_nil, or_false] at e
        rcases e with e | e | e
        · have h1 := HD2.out.cells
          rw [← e] at h1
          exact hS.notcells _ _ h1
        · rw [FO.bo] at e
          exact H1.out.mne.2 e
        · have h1 := HF2.out.at'
          rw [← e] at h1
          exact hS.notcells _ _ h1
      have hty : ∀ (t : TypeId), t ≠ 180 → t ≠ 162 → ∀ g ∈ [x.pf.d, y'.bo, f.b], ∀ cur t', w2.heap[g]? = some (.cells cur t') → t' ≠ t := by
        intro t h1 h2 g hg cur t' e et
        subst et
        simp only [List.mem_cons, List.not_mem_nil, or_false] at hg
        rcases hg with rfl | rfl | rfl
        · rw [HD2.out.cells] at e
          cases e
          exact h1 rfl
        · obtain ⟨D', ⟨es, clock, hb, _⟩, _⟩ := HD2.out.opn
          rw [hb] at e
          cases e
        · rw [HF2.out.at'] at e
          cases e
          exact h2 rfl
      have nin : ∀ k cur t, w2.heap[k]? = some (.cells cur t) → t ≠ 180 → t ≠ 162 → k ∉ [x.pf.d, y'.bo, f.b] := fun k cur t hc h1 h2 hk => hty t h1 h2 k hk cur t hc rfl
      refine ⟨rfl, { y' with O := Dv.Tab.put y'.O ((x.start : Int) + (f.pg : Int)) f.l }, ⟨?_, ?_, ?_⟩, ?_, ?_, ?_, ?_⟩
      · have L2 := HL2.out
        have LO : LoAt w3 { y' with O := Dv.Tab.put y'.O ((x.start : Int) + (f.pg : Int)) f.l } :=
          { L2 with
            dev := by
              have h1 := D3
              rw [show x.pf.d = y'.d from FO.d.symm] at h1
              exact h1
            box := L2.box.kept f3 (nin _ _ _ L2.box (by decide) (by decide))
            bsA := own0_kept L2.bsA f3 (hty 5 (by decide) (by decide))
            lsA := own0_kept L2.lsA f3 (hty 2 (by decide) (by decide)) }
        have hrn : ∀ k ∈ ownR x.rp x.sa x.fs, k ≠ f.b → k ∉ [x.pf.d, y'.bo, f.b] := by
          intro k hk hne e
          simp only [List.mem_cons, List.not_mem_nil, or_false] at e
          obtain ⟨cur, t, hc, ht⟩ := HR2.out.types k hk
          rcases e with e | e | e
          · rw [e, HD2.out.cells] at hc
            cases hc
            exact absurd ht (by decide)
          · obtain ⟨D', ⟨es, clock, hb, _⟩, _⟩ := HD2.out.opn
            rw [e, hb] at hc
            cases hc
          · exact hne e
        have hk' := FO.kin
        refine { lo := LO, box := ?_, rn := HR2.out.setF' hj rfl F3 f3 hrn, mp := ?_, mne := ?_, nod := ?_, ok := ?_, hl := ?_, m0 := H1.out.m0, m1 := H1.out.m1, hh := ?_, hh0 := ?_, p1 := H1.out.p1, area := ?_, dis := ?_, hlw := by show y'.lw ≤ _; rw [FO.lw]; exact H1.out.hlw }
        · have h1 : PBox' w3 x.pp x.pf := HB2.out.kept f3 (nin _ _ _ HB2.out (by decide) (by decide))
          have h2 : (x.saved { y' with O := Dv.Tab.put y'.O ((x.start : Int) + (f.pg : Int)) f.l } j f).pf = x.pf := by
            show Pf.mk y'.d y'.p x.start x.pages x.most x.rp x.mp = Pf.mk x.y.d x.y.p x.start x.pages x.most x.rp x.mp
            rw [FO.d, FO.p]
          show PBox' w3 x.pp _
          rw [h2]
          exact h1
        · obtain ⟨S, hm2, ht⟩ := M2
          exact ⟨S, hm2.kept f3 (hbo S hm2), by show TabOk S (ids (x.fs.set j { f with fst := 0 })); rw [ids_set (f' := { f with fst := 0 }) hj rfl rfl]; exact ht⟩
        · show x.mp ≠ y'.bs ∧ x.mp ≠ y'.bo
          rw [FO.bs, FO.bo]
          exact H1.out.mne
        · show ((ids (x.fs.set j { f with fst := 0 })).map (·.1)).Nodup
          rw [ids_set (f' := { f with fst := 0 }) hj rfl rfl]
          exact H1.out.nod
        · intro g hg
          rcases mem_set hj hg with rfl | ⟨i, hi, hgi⟩
          · exact ⟨hok.pg, hok.h0, hok.h1, Int.le_refl _, hok.l0, by show f.lst ≤ (y'.E : Int); rw [FO.E]; exact hok.l1, fun _ => by show f.l = Dv.latest y'.S (Dv.Tab.put y'.O ((x.start : Int) + (f.pg : Int)) f.l) ((x.start : Int) + (f.pg : Int)); rw [latest_put, if_pos rfl]⟩
          · have hgo := H1.out.ok g (List.mem_of_getElem? hgi)
            have hne := pg_ne H1.out.nod hgi hj hi
            refine hgo.turn (hk'.put (by have := H1.out.hlw; omega)) ?_
            show Dv.latest y'.S (Dv.Tab.put y'.O ((x.start : Int) + (f.pg : Int)) f.l) ((x.start : Int) + (g.pg : Int)) = _
            rw [latest_put, if_neg (by omega)]
            exact FO.pg H1.out.dis hgo.pg
        · show (x.fs.set j _).length ≤ x.most
          rw [List.length_set]
          exact H1.out.hl
        · show (x.fs.set j _).length = x.most → _
          rw [List.length_set]
          exact H1.out.hh
        · show (x.fs.set j _).length < x.most → _
          rw [List.length_set]
          exact H1.out.hh0
        · show (x.start : Int) + (x.pages : Int) ≤ y'.nb
          rw [FO.nb]
          exact H1.out.area
        · show (x.start : Int) + (x.pages : Int) ≤ y'.first ∨ y'.first + y'.count ≤ (x.start : Int)
          rw [FO.first, FO.count]
          exact H1.out.dis
      · have q1 : Fr x.own w w1 := fa.mono (fun _ _ e => nomatch e)
        have q2 : Fr x.own w1 w2 := f2.mono (fun k _ hk => by simp only [Po.own, List.mem_cons, List.mem_append]; exact Or.inr (Or.inr (hL4 _ hk)))
        have q3 : Fr x.own w2 w3 := f3.mono (fun k _ hk => by
          simp only [List.mem_cons, List.not_mem_nil, or_false] at hk
          rcases hk with rfl | rfl | rfl
          · simp only [Po.own, List.mem_cons, List.mem_append]
            exact Or.inr (Or.inr (hL4 _ (by simp [Po.pf])))
          · rw [FO.bo]
            simp only [Po.own, List.mem_cons, List.mem_append]
            exact Or.inr (Or.inr (hL4 _ (by simp)))
          · exact own_b hj)
        exact (q1.trans q2).trans q3
      · intro k hk
        have hk2 : k = x.mp ∨ k ∈ ownR x.rp x.sa (x.fs.set j { f with fst := 0 }) ∨ k ∈ y'.own := by
          simpa [Po.own, Po.saved, Lo.own] using hk
        rw [ownR_set (f' := { f with fst := 0 }) hj rfl] at hk2
        simp only [Po.own, List.mem_cons, List.mem_append]
        rcases hk2 with h1 | h1 | h1
        · exact Or.inl (Or.inl h1)
        · exact Or.inl (Or.inr (Or.inl h1))
        · rcases hown k h1 with h2 | h2
          · exact Or.inl (Or.inr (Or.inr h2))
          · exact Or.inr (Nat.le_trans fa.size h2)
      · have hk' := FO.kin
        exact hk'.put (by have := H1.out.hlw; omega)
      · intro q hq hne
        show Dv.latest y'.S (Dv.Tab.put y'.O ((x.start : Int) + (f.pg : Int)) f.l) ((x.start : Int) + (q : Int)) = _
        rw [latest_put, if_neg (by omega)]
        exact FO.pg H1.out.dis hq
      · show Dv.latest y'.S (Dv.Tab.put y'.O ((x.start : Int) + (f.pg : Int)) f.l) ((x.start : Int) + (f.pg : Int)) = f.l
        rw [latest_put, if_pos rfl]
      · intro _
        exact hP f (by simp)
  · have hdt : decide (0 < f.fst) = false := decide_eq_false hd
    have h0 : f.fst = 0 := by have := hok.f0; omega
    have e1 : x.saved x.y j f = x := by
      have : { f with fst := 0 } = f := by rw [← h0]
      unfold Po.saved
      rw [this, set_same hj]
    clear h hfa
    go_enter Tryz.func249, Tryz.ntmps249
    go_wp2_with (go_at_call 187; refine (dirty_any HFA.out).mono ?_; rw [hdt]; rintro e wz ⟨rfl, hz⟩; rw [hz]; clear hz)
    go_ret
    exact ⟨rfl, x.y, by rw [e1]; exact ⟨HH.out, Fr.refl _ _, fun k hk => Or.inl hk⟩, Kin.refl _, fun _ _ _ => rfl, (hok.cl h0).symm, fun h1 => by omega⟩
end Go.Proofs.YtopaeomjndblkaaGreat

namespace Go.Proofs.YtopaeomjndblkaaGreat
open Go.RowKit Go.Maps

set_option maxHeartbeats 1000000 in
theorem leaving_any {w : World} {x : Po} (h : PoAt w x) :
    Calls Tryz.prog 221 #[.pointer (some ⟨x.pp, 0, none⟩)] w fun e w' => ∃ (k : Nat) (b : Bool), e = .returned (.tuple #[.int .i64 (k : Int), .bool b]) ∧ Fr [] w w' ∧ Hid ((x.fs.length < x.most ∧ k = 0 ∧ b = true) ∨ (x.fs.length = x.most ∧ seekTo x.fs x.hand k b)) := by
  have c5 := h.box.c5
  have HH := hidI h
  have hl := h.hl
  have m0 := h.m0
  have m1 := h.m1
  clear h
  by_cases hs : x.fs.length < x.most
  · have hdt : decide (x.fs.length < x.pf.most) = true := decide_eq_true hs
    go_enter Tryz.func221, Tryz.ntmps221
    go_wp2_with (go_at_call 245; refine (spare_any HH.out.box HH.out.rn).mono ?_; rw [hdt]; rintro e w1 ⟨nq, rfl, hz⟩; rw [hz]; clear hz)
    go_ret2
    exact ⟨0, true, rfl, (Fr.refl _ _).drewN nq, hidI (Or.inl ⟨hs, rfl, rfl⟩)⟩
  · have hdt : decide (x.fs.length < x.pf.most) = false := decide_eq_false hs
    have he : x.fs.length = x.most := by omega
    have HR1 : Hid (∀ nq, Rn (w.drewN nq) x.rp x.sa x.sc x.hand x.fs) := hidI (fun nq => HH.out.rn.kept ((Fr.refl [] w).drewN nq) (by simp))
    have HB1 : Hid (∀ nq, (w.drewN nq).cell? ⟨x.pp, 5, none⟩ = some (.pointer (some ⟨x.rp, 0, none⟩))) := hidI (fun nq => (HH.out.box.kept ((Fr.refl [] w).drewN nq) (by simp)).c5)
    go_enter Tryz.func221, Tryz.ntmps221
    go_wp2_with (go_at_call 245; refine (spare_any HH.out.box HH.out.rn).mono ?_; rw [hdt]; rintro e w1 ⟨nq, rfl, hz⟩; have d5 := HB1.out nq; have R1 := hidI (HR1.out nq); have f1 := (Fr.refl [] w).drewN nq; rw [← hz] at d5 R1 f1; clear hz)
    refine (seek_any R1.out (by omega) (by omega) (by have := HH.out.hh he; omega)).mono ?_
    rintro e w2 ⟨k, b, rfl, hk, f2⟩
    go_wp2_with fail
    go_ret2
    exact ⟨k, b, rfl, f1.trans f2, hidI (Or.inr ⟨he, hk⟩)⟩
/-- A pool as it is while a frame goes in: the map says not yet what it will. -/
structure Mid (w : World) (x : Po) (S : PTab) : Prop where
  lo : LoAt w x.y
  box : PBox' w x.pp x.pf
  rn : Rn w x.rp x.sa x.sc x.hand x.fs
  mp : pMap w x.mp S
  mne : x.mp ≠ x.y.bs ∧ x.mp ≠ x.y.bo
  nod : ((ids x.fs).map (·.1)).Nodup
  ok : ∀ f ∈ x.fs, FOk x.start x.pages x.y f
  hl : x.fs.length ≤ x.most
  m0 : 8 ≤ x.most
  m1 : x.most ≤ 1024
  hh : x.fs.length = x.most → x.hand < x.most
  hh0 : x.fs.length < x.most → x.hand = 0
  p1 : 1 ≤ x.pages
  area : (x.start : Int) + (x.pages : Int) ≤ x.y.nb
  dis : (x.start : Int) + (x.pages : Int) ≤ x.y.first ∨ x.y.first + x.y.count ≤ (x.start : Int)
  hlw : x.y.lw ≤ (x.start : Int)
theorem Mid.po {w : World} {x : Po} {S : PTab} (h : Mid w x S) (ht : TabOk S (ids x.fs)) : PoAt w x :=
  ⟨h.lo, h.box, h.rn, ⟨S, h.mp, ht⟩, h.mne, h.nod, h.ok, h.hl, h.m0, h.m1, h.hh, h.hh0, h.p1, h.area, h.dis, h.hlw⟩
theorem TabOk.add {S : PTab} {l : List (Nat × Nat)} (h : TabOk S l) {pg b : Nat} (hp : pg ∉ l.map (·.1)) : TabOk (S.put (pg : Int) b) (l ++ [(pg, b)]) := by
  refine ⟨fun q hq => ?_, fun k c hk => ?_⟩
  · rcases List.mem_append.1 hq with hq | hq
    · have hne : (q.1 : Int) ≠ (pg : Int) := fun e => hp (List.mem_map.2 ⟨q, hq, by omega⟩)
      unfold PTab.put
      rw [if_neg hne]
      exact h.has q hq
    · simp at hq
      subst hq
      simp [PTab.put]
  · unfold PTab.put at hk
    split at hk
    · rename_i e
      cases hk
      exact ⟨(pg, b), by simp, e.symm, rfl⟩
    · obtain ⟨q, hq, r⟩ := h.only k c hk
      exact ⟨q, List.mem_append_left _ hq, r⟩
theorem TabOk.swap {S : PTab} {l : List (Nat × Nat)} (h : TabOk S l) (hn : (l.map (·.1)).Nodup) {j pg0 b0 pg b : Nat} (hj : l[j]? = some (pg0, b0)) (hp : pg ∉ l.map (·.1)) : TabOk ((S.del (pg0 : Int)).put (pg : Int) b) (l.set j (pg, b)) := by
  have hjl := (List.getElem?_eq_some_iff.1 hj).1
  have hne : ∀ i q, i ≠ j → l[i]? = some q → q.1 ≠ pg0 := by
    intro i q hi hq e
    obtain ⟨hi', rfl⟩ := List.getElem?_eq_some_iff.1 hq
    have hj2 := (List.getElem?_eq_some_iff.1 hj).2
    have key : ∀ a c (ha : a < l.length) (hc : c < l.length), a < c → l[a].1 ≠ l[c].1 := by
      intro a c ha hc hac
      have := List.pairwise_iff_getElem.1 hn a c (by simpa using ha) (by simpa using hc) hac
      simpa using this
    rcases Nat.lt_or_gt_of_ne hi with h1 | h1
    · exact key i j hi' hjl h1 (by rw [e, hj2])
    · exact key j i hjl hi' h1 (by rw [e, hj2])
  refine ⟨fun q hq => ?_, fun k c hk => ?_⟩
  · obtain ⟨i, hi⟩ := List.mem_iff_getElem?.1 hq
    by_cases e : i = j
    · subst e
      rw [List.getElem?_set_self hjl] at hi
      cases hi
      simp [PTab.put]
    · rw [List.getElem?_set_ne (Ne.symm e)] at hi
      have h1 := hne i q e hi
      have h2 : (q.1 : Int) ≠ (pg : Int) := fun e => hp (List.mem_map.2 ⟨q, List.mem_of_getElem? hi, by omega⟩)
      unfold PTab.put PTab.del
      rw [if_neg h2, if_neg (by omega)]
      exact h.has q (List.mem_of_getElem? hi)
  · unfold PTab.put PTab.del at hk
    split at hk
    · rename_i e
      cases hk
      exact ⟨(pg, b), List.mem_of_getElem? (by rw [List.getElem?_set_self hjl]), e.symm, rfl⟩
    · split at hk
      · cases hk
      · rename_i e1 e2
        obtain ⟨q, hq, r1, r2⟩ := h.only k c hk
        obtain ⟨i, hi⟩ := List.mem_iff_getElem?.1 hq
        have hij : i ≠ j := by
          intro e
          subst e
          rw [hj] at hi
          cases hi
          exact e2 r1.symm
        exact ⟨q, List.mem_of_getElem? (by rw [List.getElem?_set_ne (Ne.symm hij)]; exact hi), r1, r2⟩
theorem turnS_ids (k : Nat) (s : List Fm × Nat) : ids (turnS k s).1 = ids s.1 := by
  induction k with
  | zero => rfl
  | succ k ih =>
    rw [turnS, ← ih]
    unfold stepS
    cases h : (turnS k s).1[(turnS k s).2]? with
    | none => rfl
    | some f => exact ids_set h rfl rfl
theorem turnS_at (k : Nat) (s : List Fm × Nat) : ∀ (i : Nat) (g : Fm), (turnS k s).1[i]? = some g → ∃ g' : Fm, s.1[i]? = some g' ∧ (g = g' ∨ g = offF g') := by
  induction k with
  | zero => exact fun i g hg => ⟨g, hg, Or.inl rfl⟩
  | succ k ih =>
    intro i g hg
    rw [turnS, stepS] at hg
    cases h : (turnS k s).1[(turnS k s).2]? with
    | none =>
      simp only [h] at hg
      exact ih i g hg
    | some f =>
      simp only [h] at hg
      by_cases e : i = (turnS k s).2
      · subst e
        rw [List.getElem?_set_self (List.getElem?_eq_some_iff.1 h).1] at hg
        cases hg
        obtain ⟨g', h1, h2⟩ := ih _ f h
        refine ⟨g', h1, Or.inr ?_⟩
        rcases h2 with rfl | rfl <;> rfl
      · rw [List.getElem?_set_ne (Ne.symm e)] at hg
        exact ih i g hg
theorem turnS_hand_eq (k : Nat) (s : List Fm × Nat) (h : s.2 < s.1.length) : (turnS k s).2 = (s.2 + k) % s.1.length := by
  induction k with
  | zero => exact (Nat.mod_eq_of_lt h).symm
  | succ k ih =>
    rw [turnS, stepS]
    show ((turnS k s).2 + 1) % (turnS k s).1.length = _
    rw [turnS_len, ih, Nat.mod_add_mod, Nat.add_assoc]
theorem FOk.off {start pages : Nat} {y : Lo} {f : Fm} (h : FOk start pages y f) : FOk start pages y (offF f) := ⟨h.pg, h.h0, h.h1, h.f0, h.l0, h.l1, h.cl⟩
def Po.added (x : Po) (g c : Nat) (nf : Fm) : Po := { x with sa := some ⟨g, 0, none⟩, sc := c, fs := x.fs ++ [nf] }
theorem ownR_mem {rp : Nat} {sa : Option Addr} {fs : List Fm} {k : Nat} : k ∈ ownR rp sa fs ↔ k = rp ∨ k ∈ (sa.map (·.block)).toList ∨ ∃ f ∈ fs, f.b = k := by simp [ownR]
theorem NewOr.own {sa : Option Addr} {n c g z : Nat} (h : NewOr sa n c g z) : g ∈ (sa.map (·.block)).toList ∨ z ≤ g := by
  rcases h with h | h
  · cases sa with
    | none => simp [Value.ownBlock] at h
    | some a =>
      simp [Value.ownBlock] at h
      left
      simp [h]
  · exact Or.inr h
theorem ownBlock_mem {sa : Option Addr} {n c g : Nat} (h : g ∈ (Value.ownBlock (.slice sa n c)).toList) : g ∈ (sa.map (·.block)).toList := by
  cases sa with
  | none => simp [Value.ownBlock] at h
  | some a => simpa [Value.ownBlock] using h
set_option maxHeartbeats 2000000 in
theorem enter_spare {w : World} {x : Po} (h : PoAt w x) {S : PTab} (hS : pMap w x.mp S) (hs : x.fs.length < x.most) {nf : Fm} (hf : FAt w nf) (hb : nf.b ∉ x.own) (hpg : nf.pg ∉ (ids x.fs).map (·.1)) (hok : FOk x.start x.pages x.y nf) (k : Nat) :
    Calls Tryz.prog 222 #[.pointer (some ⟨x.pp, 0, none⟩), .pointer (some ⟨nf.b, 0, none⟩), .int .i64 (k : Int)] w fun e w' => e = .returned (.int .i64 0) ∧ ∃ g c, Mid w' (x.added g c nf) S ∧ Fr x.own w w' ∧ (∀ i ∈ (x.added g c nf).own, i ∈ x.own ∨ i = nf.b ∨ w.heap.size ≤ i) := by
  have hdt : decide (x.fs.length < x.pf.most) = true := decide_eq_true hs
  have HH := hidI h
  have HS := hidI hS
  have HF := hidI hf
  have HR1 : Hid (∀ nq, Rn (w.drewN nq) x.rp x.sa x.sc x.hand x.fs) := hidI (fun nq => HH.out.rn.kept ((Fr.refl [] w).drewN nq) (by simp))
  have HB1 : Hid (∀ nq, (w.drewN nq).cell? ⟨x.pp, 5, none⟩ = some (.pointer (some ⟨x.rp, 0, none⟩))) := hidI (fun nq => (HH.out.box.kept ((Fr.refl [] w).drewN nq) (by simp)).c5)
  have hbn : nf.b ∉ x.fs.map (·.b) := fun e => hb (by simp only [Po.own, ownR, List.mem_cons, List.mem_append]; exact Or.inr (Or.inl (Or.inr (Or.inr e))))
  have m1 := h.m1
  clear h hS hf
  go_enter Tryz.func222, Tryz.ntmps222
  go_wp2_with (go_at_call 245; refine (spare_any HH.out.box HH.out.rn).mono ?_; rw [hdt]; rintro e w1 ⟨nq, rfl, hz⟩; have d5 := HB1.out nq; have R1 := hidI (HR1.out nq); have f1 := (Fr.refl [] w).drewN nq; rw [← hz] at d5 R1 f1; clear hz)
  refine (add_any R1.out (by omega) (HF.out.kept f1 (by simp)) hbn).mono ?_
  rintro e w2 ⟨rfl, g, c, R2, hnew, f2⟩
  go_wp2_with fail
  go_ret
  have hL : ∀ i ∈ x.rp :: (Value.ownBlock (.slice x.sa x.fs.length x.sc)).toList, i ∈ ownR x.rp x.sa x.fs := by
    intro i hi
    rw [ownR_mem]
    rcases List.mem_cons.1 hi with h1 | h1
    · exact Or.inl h1
    · exact Or.inr (Or.inl (ownBlock_mem h1))
  have H1 := HH.out.kept f1 (by simp)
  refine ⟨rfl, g, c, ?_, ?_, ?_⟩
  · refine { lo := H1.lo.kept f2 (fun i hi e => H1.d1 i (hL i e) hi), box := H1.box.kept f2 (fun e => H1.d4 (by simp only [Po.own, List.mem_cons, List.mem_append]; exact Or.inr (Or.inl (hL _ e)))), rn := R2, mp := (HS.out.kept f1 (by simp)).kept f2 (fun e => H1.d2 (hL _ e)), mne := H1.mne, nod := ?_, ok := ?_, hl := ?_, m0 := H1.m0, m1 := H1.m1, hh := ?_, hh0 := ?_, p1 := H1.p1, area := H1.area, dis := H1.dis, hlw := H1.hlw }
    · show ((ids (x.fs ++ [nf])).map (·.1)).Nodup
      unfold ids
      rw [List.map_append, List.map_append, List.nodup_append]
      refine ⟨H1.nod, by simp, fun a ha b hb' e => ?_⟩
      simp at hb'
      subst hb'
      subst e
      exact hpg ha
    · intro f hf
      rcases List.mem_append.1 hf with hf | hf
      · exact H1.ok f hf
      · simp at hf
        subst hf
        exact hok
    · show (x.fs ++ [nf]).length ≤ x.most
      rw [List.length_append]
      exact hs
    · intro _
      show x.hand < x.most
      rw [H1.hh0 hs]
      have := H1.m0
      omega
    · intro _
      exact H1.hh0 hs
  · exact (f1.mono (fun _ _ e => nomatch e)).trans (f2.mono (fun i _ hi => by simp only [Po.own, List.mem_cons, List.mem_append]; exact Or.inr (Or.inl (hL i hi))))
  · intro i hi
    have hi2 : i = x.mp ∨ i ∈ ownR x.rp (some ⟨g, 0, none⟩) (x.fs ++ [nf]) ∨ i ∈ x.y.own := by simpa [Po.own, Po.added] using hi
    simp only [Po.own, List.mem_cons, List.mem_append]
    rcases hi2 with h1 | h1 | h1
    · exact Or.inl (Or.inl h1)
    · rw [ownR_mem] at h1
      rcases h1 with h1 | h1 | ⟨f, hf, h1⟩
      · exact Or.inl (Or.inr (Or.inl (by rw [ownR_mem]; exact Or.inl h1)))
      · simp at h1
        rcases hnew.own with h2 | h2
        · exact Or.inl (Or.inr (Or.inl (by rw [ownR_mem, h1]; exact Or.inr (Or.inl h2))))
        · exact Or.inr (Or.inr (by have := f1.size; omega))
      · rcases List.mem_append.1 hf with hf | hf
        · exact Or.inl (Or.inr (Or.inl (by rw [ownR_mem]; exact Or.inr (Or.inr ⟨f, hf, h1⟩))))
        · simp at hf
          subst hf
          exact Or.inr (Or.inl h1.symm)
    · exact Or.inl (Or.inr (Or.inr h1))
end Go.Proofs.YtopaeomjndblkaaGreat


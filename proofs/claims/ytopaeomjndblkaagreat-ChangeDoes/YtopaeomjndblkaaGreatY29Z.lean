/-
  Rows of bits and the bytes that they are packed in: plain mathematics, no program.
-/
import Derived.Test.YtopaeomjndblkaaGreatY28Z
import Derived.Test.YtopaeomjndblkaaGreatY26Z
import Derived.Test.YtopaeomjndblkaaGreatY27Z
import Derived.WalkKit
import Derived.Laws.BitsAllLaws
namespace Go.Proofs.YtopaeomjndblkaaGreat
open Go.RowKit Go.Maps

def cleanF (f : Fm) : Fm := { f with fst := 0 }
/-- The frames, of which those at some blocks are clean. -/
def cleanB (bl : List Nat) (fs : List Fm) : List Fm := fs.map fun f => if f.b ∈ bl then cleanF f else f
theorem cleanB_nil (fs : List Fm) : cleanB [] fs = fs := by
  unfold cleanB
  simp
theorem cleanB_at {bl : List Nat} {fs : List Fm} {j : Nat} {f : Fm} (hj : fs[j]? = some f) : (cleanB bl fs)[j]? = some (if f.b ∈ bl then cleanF f else f) := by
  unfold cleanB
  rw [List.getElem?_map, hj]
  rfl
theorem b_uniq {fs : List Fm} (hn : (fs.map (·.b)).Nodup) {i j : Nat} {f g : Fm} (hi : fs[i]? = some f) (hj : fs[j]? = some g) (he : f.b = g.b) : i = j := by
  have h1 : (fs.map (·.b))[i]? = some f.b := by rw [List.getElem?_map, hi]; rfl
  have h2 : (fs.map (·.b))[j]? = some f.b := by rw [List.getElem?_map, hj, he]; rfl
  obtain ⟨hl1, e1⟩ := List.getElem?_eq_some_iff.1 h1
  obtain ⟨hl2, e2⟩ := List.getElem?_eq_some_iff.1 h2
  have hp := List.pairwise_iff_getElem.1 hn
  rcases Nat.lt_trichotomy i j with h | h | h
  · exact absurd (e1.trans e2.symm) (hp i j hl1 hl2 h)
  · exact h
  · exact absurd (e2.trans e1.symm) (hp j i hl2 hl1 h)
theorem cleanB_set {bl : List Nat} {fs : List Fm} (hn : (fs.map (·.b)).Nodup) {j : Nat} {f : Fm} (hj : fs[j]? = some f) : (cleanB bl fs).set j (cleanF f) = cleanB (bl ++ [f.b]) fs := by
  apply List.ext_getElem?
  intro i
  by_cases e : i = j
  · subst e
    rw [List.getElem?_set_self (by unfold cleanB; rw [List.length_map]; exact (List.getElem?_eq_some_iff.1 hj).1), cleanB_at hj, if_pos (by simp)]
  · rw [List.getElem?_set_ne (fun h => e h.symm)]
    unfold cleanB
    rw [List.getElem?_map, List.getElem?_map]
    cases hi : fs[i]? with
    | none => rfl
    | some g =>
      have hne : g.b ≠ f.b := fun h => e (b_uniq hn hi hj h)
      simp [hne]
theorem cleanB_pg (bl : List Nat) (fs : List Fm) : (cleanB bl fs).map (·.pg) = fs.map (·.pg) := by
  unfold cleanB
  rw [List.map_map]
  refine List.map_congr_left fun f _ => ?_
  show (if f.b ∈ bl then cleanF f else f).pg = f.pg
  split <;> rfl
/-- What a pool is behind Flush: its frames are clean, on the device stands what they have. -/
structure Flushed (x x' : Po) : Prop where
  al : Alike x x'
  fs : x'.fs = x.fs.map cleanF
  kin : Kin x.y x'.y
  clean : ∀ f ∈ x'.fs, f.fst = 0
  len : x'.fs.length = x.fs.length
  on : ∀ q, q < x.pages → ∀ l, Val x q l → pgD x.start x'.y q = l
  sync : x'.y.O = Dv.Tab.none
  safe : ∀ f ∈ x.fs, 0 < f.fst → f.lst ≤ (x'.y.P : Int)
/-- While dirty pages are written. -/
structure Mdw (w wr : World) (x : Po) (bl pl : List Nat) (yi : Lo) : Prop where
  st : Step w wr x { x with y := yi, fs := cleanB bl x.fs }
  kin : Kin x.y yi
  pg : ∀ q, q < x.pages → q ∉ pl → pgD x.start yi q = pgD x.start x.y q
theorem Rising.nodb {fs ds : List Fm} (h : Rising fs ds) (hn : (fs.map (·.b)).Nodup) : (ds.map (·.b)).Nodup := by
  have h1 : (ds.map (·.b)).Perm ((dirtyL fs).map (·.b)) := h.perm.map _
  refine h1.nodup_iff.2 ?_
  exact List.Nodup.sublist (List.Sublist.map _ List.filter_sublist) hn
theorem Rising.mem {fs ds : List Fm} (h : Rising fs ds) {f : Fm} (hf : f ∈ ds) : f ∈ fs ∧ 0 < f.fst := by
  have h1 := h.perm.mem_iff.1 hf
  have h2 := List.mem_filter.1 h1
  exact ⟨h2.1, by simpa [dirtyB] using h2.2⟩
theorem Rising.has {fs ds : List Fm} (h : Rising fs ds) {f : Fm} (hf : f ∈ fs) (hd : 0 < f.fst) : f ∈ ds := h.perm.mem_iff.2 (List.mem_filter.2 ⟨hf, by simpa [dirtyB] using hd⟩)
set_option maxHeartbeats 2000000 in
theorem flush_any {w : World} {x : Po} (h : PoAt w x) : Calls Tryz.prog 72 #[.pointer (some ⟨x.pp, 0, none⟩)] w fun e w' => e = .returned (.int .i64 0) ∧ ∃ x', Step w w' x x' ∧ Flushed x x' := by
  have HH := hidI h
  have hm1 := h.m1
  have hhl := h.hl
  clear h
  go_enter Tryz.func72, Tryz.ntmps72
  go_wp2_with (go_at_call 75; refine (pmade_yes HH.out.box).mono ?_; rintro e wz ⟨rfl, hz⟩; rw [hz]; clear hz)
  refine (rising_any HH.out).mono ?_
  rintro e w1 ⟨ad, n, c, ds, rfl, hn, hnc, RR, RI⟩
  have HRR := hidI RR
  have HRI := hidI RI
  have HN := hidI hn
  have hle : n ≤ 1024 := by
    have h1 : ds.length ≤ x.fs.length := by
      rw [RI.perm.length_eq]
      exact List.length_filter_le _ _
    omega
  have H1 := hidI (HH.out.kept RR.fr (by simp))
  clear RR RI hn
  go_wp2_with fail
  refine (cover_any H1.out.box H1.out.lo rfl ad n c ds HN.out hle HRR.out.cell (fun f hf => ⟨H1.out.rn.frames f (HRI.out.mem hf).1, (H1.out.ok f (HRI.out.mem hf).1).l1⟩)).mono ?_
  rintro e w2 ⟨rfl, y', L2, FO, hP, hown, f2⟩
  have ST2 := hidI (Step.lower H1.out L2 f2 (fun k hk => by simp only [Lo.own, List.mem_append]; exact Or.inl hk) hown FO.d FO.p FO.bs FO.bo FO.nb FO.first FO.count (Nat.le_of_eq FO.E.symm) (fun q hq => FO.pg H1.out.dis hq) FO.lw)
  have HFO := hidI FO
  have HP := hidI hP
  have hrow : Hid (∀ wr, Fr x.own w1 wr → ∀ (j : Nat) (f : Fm), ds[j]? = some f → ∃ g, ad = some ⟨g, 0, none⟩ ∧ wr.cell? ⟨g, j, none⟩ = some (.pointer (some ⟨f.b, 0, none⟩))) := hidI (fun wr fr j f hj => by
    obtain ⟨g, rfl, hc⟩ := HRR.out.cell j f hj
    refine ⟨g, rfl, ?_⟩
    rw [← hc]
    refine World.cell?_of_block (fr.block g (block_lt_of_cell hc) (fun e => ?_))
    have h3 := HRR.out.new g 0 rfl
    have h4 := HH.out.lt g (List.mem_cons_of_mem _ e)
    omega)
  clear L2 FO hP hown
  go_wp2_with fail
  go_loopw [21] (fun s21 wr => ∃ i : Nat, i ≤ n ∧ s21 = .int .i64 (i : Int) ∧ ∃ yi, Hid (Mdw w1 wr x ((ds.take i).map (·.b)) ((ds.take i).map (·.pg)) yi ∧ y'.P ≤ yi.P)) (fun s21 _ => n - (intOf s21).toNat)
  case atStart =>
    refine ⟨0, by omega, rfl, y', hidI ⟨⟨?_, HFO.out.kin, fun q hq _ => HFO.out.pg H1.out.dis hq⟩, Nat.le_refl _⟩⟩
    have e1 : ({ x with y := y', fs := cleanB ((ds.take 0).map (·.b)) x.fs } : Po) = { x with y := y' } := by
      rw [List.take_zero, List.map_nil, cleanB_nil]
    rw [e1]
    exact ST2.out
  case round =>
    obtain ⟨i, hi, rfl, yi, HM⟩ := hrel
    have HX := hidI HM.out.1.st.at'
    by_cases hlt : i < n
    · have q1 : (i : Int) < (n : Int) := by omega
      have q0 : (0 : Int) ≤ (i : Int) := by omega
      have hwi : IntKind.i64.wrap ((i : Int) + 1) = (i : Int) + 1 := wrapI _ (by omega) (by omega)
      obtain ⟨f, hf⟩ : ∃ f, ds[i]? = some f := ⟨_, List.getElem?_eq_getElem (by have := HN.out; omega)⟩
      obtain ⟨g, rfl, cj⟩ := hrow.out wr HM.out.1.st.fr i f hf
      obtain ⟨hfm, hfd⟩ := HRI.out.mem (List.mem_of_getElem? hf)
      obtain ⟨j, hj⟩ := List.mem_iff_getElem?.1 hfm
      have hnb : f.b ∉ (ds.take i).map (·.b) := fun e => by
        obtain ⟨g', hg', he⟩ := List.mem_map.1 e
        obtain ⟨k, hk⟩ := List.mem_iff_getElem?.1 hg'
        have hki : k < i := by
          have := (List.getElem?_eq_some_iff.1 hk).1
          rw [List.length_take] at this
          omega
        rw [List.getElem?_take, if_pos hki] at hk
        have := b_uniq (HRI.out.nodb HH.out.rn.nod) hk hf he
        omega
      have hjc : (cleanB ((ds.take i).map (·.b)) x.fs)[j]? = some f := by rw [cleanB_at hj, if_neg hnb]
      have HW := hidI (pwrite_step HX.out hjc)
      have HSET := hidI (cleanB_set (bl := (ds.take i).map (·.b)) HH.out.rn.nod hj)
      have HTK : Hid ((ds.take (i + 1)).map (·.b) = (ds.take i).map (·.b) ++ [f.b] ∧ (ds.take (i + 1)).map (·.pg) = (ds.take i).map (·.pg) ++ [f.pg]) := hidI (by rw [List.take_add_one, hf]; simp)
      clear hjc hnb
      go_wp2_with (go_at_call 173; refine HW.out.mono ?_; rintro e w3 ⟨rfl, st3⟩)
      refine ⟨⟨i + 1, by omega, by go_num, { yi with O := Dv.Tab.put yi.O ((x.start : Int) + (f.pg : Int)) f.l }, hidI ⟨⟨?_, ?_, ?_⟩, HM.out.2⟩⟩, by simp [intOf]; omega⟩
      · rw [HTK.out.1, ← HSET.out]
        exact HM.out.1.st.trans st3
      · have k := HM.out.1.kin
        exact k.put (by have := H1.out.hlw; omega)
      · intro q hq hnq
        rw [HTK.out.2] at hnq
        simp only [List.mem_append, List.mem_singleton, not_or] at hnq
        show Dv.latest yi.S (Dv.Tab.put yi.O ((x.start : Int) + (f.pg : Int)) f.l) ((x.start : Int) + (q : Int)) = _
        rw [latest_put, if_neg (by omega)]
        exact HM.out.1.pg q hq hnq.1
    · have q1 : ¬ (i : Int) < (n : Int) := by omega
      have hin : i = n := by omega
      have HALL : Hid (ds.take i = ds) := hidI (by rw [List.take_of_length_le (by have := HN.out; omega)])
      have hkn := HM.out.1.kin
      have hD : Dv.Dev wr x.y.d yi.bs yi.bo yi.nb 0 false yi.S yi.O := by rw [← hkn.d]; exact HX.out.lo.dev
      have b0 : wr.cell? ⟨x.pp, 0, none⟩ = some (.pointer (some ⟨x.y.d, 0, none⟩)) := by
        have h3 := HX.out.box.c0
        rw [show ({ x with y := yi, fs := cleanB ((ds.take i).map (·.b)) x.fs } : Po).pf.d = yi.d from rfl, hkn.d] at h3
        exact h3
      have HL2 := hidI HX.out.lo
      have FO := hkn
      go_wp2_with fail
      refine (Dv.sync_dev hD rfl).mono ?_
      rintro e w3 ⟨rfl, D3, f3⟩
      go_wp2_with fail
      go_ret
      have f3' := fr_dv f3
      have L2 := HL2.out
      have hne := L2.ne
      have LO : LoAt w3 { yi with S := Dv.over yi.S yi.O, O := Dv.Tab.none } :=
        { L2 with
          dev := by
            rw [← FO.d] at D3
            exact D3
          box := L2.box.kept f3' (by simp only [List.mem_cons, List.not_mem_nil, or_false, not_or]; rw [← FO.d]; exact hne)
          bsA := own0_kept L2.bsA f3' (by rw [← FO.d]; exact dev_types3 L2.dev)
          lsA := own0_kept L2.lsA f3' (by
            intro g hg cur t e et
            subst et
            simp only [List.mem_cons, List.not_mem_nil, or_false] at hg
            rcases hg with rfl | rfl | rfl
            · rw [← FO.d, L2.dev.cells] at e
              cases e
            · obtain ⟨D', ⟨es, clock, hb, _⟩, _⟩ := L2.dev.safe
              rw [hb] at e
              cases e
            · obtain ⟨D', ⟨es, clock, hb, _⟩, _⟩ := L2.dev.opn
              rw [hb] at e
              cases e) }
      have STL := Step.lower HX.out LO f3' (fun k hk => by
        have hk3 : k = x.y.d ∨ k = yi.bs ∨ k = yi.bo := by simpa using hk
        simp only [Lo.own, List.mem_append]
        left
        show k ∈ [yi.p, yi.d, yi.bs, yi.bo]
        rw [hkn.d]
        simp only [List.mem_cons, List.not_mem_nil, or_false]
        exact Or.inr hk3) (fun k hk => Or.inl hk) rfl rfl rfl rfl rfl rfl rfl (Nat.le_refl _) (fun q hq => latest_sync _ _ _) rfl
      have ST := hidI ((⟨H1.out, HRR.out.fr.mono (fun _ _ e => nomatch e), fun k hk => Or.inl hk⟩ : Step w w1 x x).trans (HM.out.1.st.trans STL))
      have hpl : ∀ q, q ∉ (ids x.fs).map (·.1) → q ∉ (ds.take i).map (·.pg) := fun q hq e => by
        obtain ⟨g', hg', he⟩ := List.mem_map.1 e
        rw [HALL.out] at hg'
        exact hq (he ▸ mem_ids (HRI.out.mem hg').1)
      have hcl : cleanB ((ds.take i).map (·.b)) x.fs = x.fs.map cleanF := by
        unfold cleanB
        refine List.map_congr_left fun f hf => ?_
        by_cases hd : 0 < f.fst
        · rw [if_pos]
          rw [HALL.out]
          exact List.mem_map.2 ⟨f, HRI.out.has hf hd, rfl⟩
        · have h0 := (HH.out.ok f hf).f0
          have e0 : f.fst = 0 := by omega
          have e1 : cleanF f = f := by unfold cleanF; rw [← e0]
          rw [e1, ite_self]
      have hal : ∀ q, q < x.pages → ∀ l, Val x q l → Val { x with y := { yi with S := Dv.over yi.S yi.O, O := Dv.Tab.none }, fs := cleanB ((ds.take i).map (·.b)) x.fs } q l := fun q hq l hv => by
        rcases hv with ⟨f, hf, h1, h2⟩ | ⟨hq', h2⟩
        · refine Or.inl ⟨cleanF f, ?_, h1, h2⟩
          show cleanF f ∈ cleanB _ x.fs
          rw [hcl]
          exact List.mem_map.2 ⟨f, hf, rfl⟩
        · refine Or.inr ⟨?_, ?_⟩
          · show q ∉ (ids (cleanB _ x.fs)).map (·.1)
            rw [ids_pg, cleanB_pg, ← ids_pg]
            exact hq'
          · show Dv.latest (Dv.over yi.S yi.O) Dv.Tab.none _ = l
            rw [latest_sync, ← h2]
            exact HM.out.1.pg q hq (hpl q hq')
      refine ⟨rfl, _, ST.out, ⟨⟨rfl, rfl, rfl, rfl, rfl, rfl, hal⟩, hcl, hkn.sync, ?_, ?_, ?_, rfl, ?_⟩⟩
      · intro f hf
        have hf2 : f ∈ cleanB ((ds.take i).map (·.b)) x.fs := hf
        rw [hcl] at hf2
        obtain ⟨g', _, rfl⟩ := List.mem_map.1 hf2
        rfl
      · show (cleanB _ x.fs).length = _
        unfold cleanB
        rw [List.length_map]
      · intro q hq l hv
        have hq2 := hal q hq l hv
        rcases hq2 with ⟨f, hf, h1, h2⟩ | ⟨_, h2⟩
        · have hf2 : f ∈ cleanB ((ds.take i).map (·.b)) x.fs := hf
          rw [hcl] at hf2
          obtain ⟨g', _, rfl⟩ := List.mem_map.1 hf2
          have h3 := (ST.out.at'.ok _ hf).cl rfl
          rw [← h2, h3, ← h1]
        · exact h2
      · intro f hf hd
        exact Int.le_trans (HP.out f (HRI.out.has hf hd)) (by have := HM.out.2; show (y'.P : Int) ≤ (yi.P : Int); omega)
end Go.Proofs.YtopaeomjndblkaaGreat

namespace Go.Proofs.YtopaeomjndblkaaGreat
open Go.RowKit Go.Maps

theorem Step.quiet {w w' : World} {x : Po} (h : PoAt w x) (f : Fr [] w w') : Step w w' x x := ⟨h.kept f (by simp), f.mono (fun _ _ e => nomatch e), fun k hk => Or.inl hk⟩
theorem val_y {x : Po} {y' : Lo} (hpg : ∀ q, q < x.pages → pgD x.start y' q = pgD x.start x.y q) : Alike x { x with y := y' } :=
  ⟨rfl, rfl, rfl, rfl, rfl, rfl, fun q hq l hv => by
    rcases hv with h1 | ⟨h1, h2⟩
    · exact Or.inl h1
    · exact Or.inr ⟨h1, (hpg q hq).trans h2⟩⟩
/-- What a pool is behind Change. -/
def Chg (x x'' : Po) (page off : Nat) (l : List UInt8) (lsn : Int) : Prop := ∃ (f : Fm) (x' : Po) (j : Nat), Fnd x x' page f ∧ x'.fs[j]? = some f ∧ x'' = { x' with fs := x'.fs.set j (f.changed off l lsn) }
theorem Chg.val {x x'' : Po} {page off : Nat} {l : List UInt8} {lsn : Int} (h : Chg x x'' page off l lsn) (hn : ((ids x.fs).map (·.1)).Nodup) (hn2 : ((ids x''.fs).map (·.1)).Nodup) :
    x''.start = x.start ∧ x''.pages = x.pages ∧ x''.most = x.most ∧ x''.pp = x.pp ∧ x''.mp = x.mp ∧ x''.rp = x.rp ∧ (∀ q, q < x.pages → q ≠ page → ∀ m, Val x q m → Val x'' q m) ∧ (∀ m, Val x page m → Val x'' page (over m off l)) := by
  obtain ⟨f, x', j, hf, hj, rfl⟩ := h
  obtain ⟨al, hv, hpg⟩ := hf.alike hn
  have hids : (ids (x'.fs.set j (f.changed off l lsn))).map (·.1) = (ids x'.fs).map (·.1) := by rw [ids_set (f' := f.changed off l lsn) hj rfl rfl]
  have hn' : ((ids x'.fs).map (·.1)).Nodup := by rw [← hids]; exact hn2
  refine ⟨al.1, al.2.1, al.2.2.1, al.2.2.2.1, al.2.2.2.2.1, al.2.2.2.2.2.1, fun q hq hne m hm => ?_, fun m hm => ?_⟩
  · rcases al.2.2.2.2.2.2 q hq m hm with ⟨g, hg, h1, h2⟩ | ⟨h1, h2⟩
    · obtain ⟨i, hi⟩ := List.mem_iff_getElem?.1 hg
      have hij : i ≠ j := fun e => by
        subst e
        rw [hj] at hi
        cases hi
        exact hne (h1.symm.trans hpg)
      exact Or.inl ⟨g, List.mem_of_getElem? (i := i) (by rw [List.getElem?_set_ne (fun e => hij e.symm)]; exact hi), h1, h2⟩
    · exact Or.inr ⟨by show q ∉ (ids (x'.fs.set j _)).map (·.1); rw [hids]; exact h1, h2⟩
  · have e1 := Val.uniq hn hm hv
    refine Or.inl ⟨f.changed off l lsn, List.mem_of_getElem? (i := j) (List.getElem?_set_self (List.getElem?_eq_some_iff.1 hj).1), hpg, ?_⟩
    show over f.l off l = over m off l
    rw [e1]
theorem Fnd.hd0 {x x' : Po} {page : Nat} {f : Fm} (h : Fnd x x' page f) (h0 : ∀ g ∈ x.fs, g.hd = 0) : (∀ g ∈ x'.fs, g.hd = 0) ∧ f.hd = 0 := by
  rcases h with ⟨j, f0, hj, rfl, rfl, rfl⟩ | ⟨hno, hm, hf⟩
  · have h1 := h0 _ (List.mem_of_getElem? hj)
    refine ⟨fun g hg => ?_, h1⟩
    rcases mem_set hj hg with rfl | ⟨i, _, hgi⟩
    · exact h1
    · exact h0 g (List.mem_of_getElem? hgi)
  · refine ⟨?_, by rw [hf]; rfl⟩
    rcases hm with ⟨_, a, c, rfl⟩ | ⟨_, y', k, j, f1, _, _, hf1, _, rfl, _⟩
    · intro g hg
      rcases List.mem_append.1 hg with h1 | h1
      · exact h0 g h1
      · rw [List.mem_singleton.1 h1]
        rfl
    · intro g hg
      have hlt : j < (turnS k (x.fs.set j { f1 with fst := 0 }, x.hand)).1.length := by rw [turnS_len, List.length_set]; exact (List.getElem?_eq_some_iff.1 hf1).1
      rcases mem_set (List.getElem?_eq_getElem hlt) hg with rfl | ⟨i, hi, hgi⟩
      · rfl
      · obtain ⟨g', h1, h2⟩ := turnS_at k (x.fs.set j { f1 with fst := 0 }, x.hand) i g hgi
        have h3 : g'.hd = 0 := by
          rcases mem_set hf1 (List.mem_of_getElem? h1) with rfl | ⟨i', _, hgi'⟩
          · exact h0 f1 (List.mem_of_getElem? hf1)
          · exact h0 g' (List.mem_of_getElem? hgi')
        rcases h2 with rfl | rfl
        · exact h3
        · exact h3
theorem Chg.hd0 {x x'' : Po} {page off : Nat} {l : List UInt8} {lsn : Int} (h : Chg x x'' page off l lsn) (h0 : ∀ g ∈ x.fs, g.hd = 0) : ∀ g ∈ x''.fs, g.hd = 0 := by
  obtain ⟨f, x', j, hf, hj, rfl⟩ := h
  obtain ⟨h1, h2⟩ := hf.hd0 h0
  intro g hg
  rcases mem_set hj hg with rfl | ⟨i, _, hgi⟩
  · exact h2
  · exact h1 g (List.mem_of_getElem? hgi)
theorem Chg.kin {x x'' : Po} {page off : Nat} {l : List UInt8} {lsn : Int} (h : Chg x x'' page off l lsn) : Kin x.y x''.y := by
  obtain ⟨f, x', j, hf, hj, rfl⟩ := h
  exact hf.kin
theorem Chg.pgs {x x'' : Po} {page off : Nat} {l : List UInt8} {lsn : Int} (h : Chg x x'' page off l lsn) : ∃ f x', Fnd x x' page f ∧ x''.fs.length = x'.fs.length ∧ (ids x''.fs).map (·.1) = (ids x'.fs).map (·.1) := by
  obtain ⟨f, x', j, hf, hj, rfl⟩ := h
  exact ⟨f, x', hf, List.length_set, by rw [show ({ x' with fs := x'.fs.set j (f.changed off l lsn) } : Po).fs = x'.fs.set j (f.changed off l lsn) from rfl, ids_set (f' := f.changed off l lsn) hj rfl rfl]⟩
/-- The pages that are in frames behind a page was asked for. -/
theorem Fnd.pgs {x x' : Po} {page : Nat} {f : Fm} (h : Fnd x x' page f) : ∀ q ∈ (ids x'.fs).map (·.1), q ∈ (ids x.fs).map (·.1) ∨ q = page := by
  rcases h with ⟨j, f0, hj, rfl, rfl, rfl⟩ | ⟨hno, hm, hf⟩
  · intro q hq
    left
    rw [show (x.asked j f0).fs = x.fs.set j { f0 with ask := true } from rfl, ids_set (f' := { f0 with ask := true }) hj rfl rfl] at hq
    exact hq
  · rcases hm with ⟨_, a, c, rfl⟩ | ⟨_, y', k, j, f1, _, _, hf1, _, rfl, _⟩
    · intro q hq
      have h1 : q ∈ (ids (x.fs ++ [newF f.b page (pgD x.start x.y page)])).map (·.1) := hq
      rw [ids_pg, List.map_append, List.mem_append, ← ids_pg] at h1
      rcases h1 with h1 | h1
      · exact Or.inl h1
      · simp [newF] at h1
        exact Or.inr h1
    · intro q hq
      have h1 : q ∈ (ids ((turnS k (x.fs.set j { f1 with fst := 0 }, x.hand)).1.set j (newF f.b page (pgD x.start x.y page)))).map (·.1) := hq
      rw [ids_pg, List.map_set, ← ids_pg, turnS_ids] at h1
      rcases List.mem_or_eq_of_mem_set h1 with h2 | h2
      · left
        rw [show ids (x.fs.set j { f1 with fst := 0 }) = ids x.fs from ids_set (f' := { f1 with fst := 0 }) hf1 rfl rfl] at h2
        exact h2
      · exact Or.inr h2
theorem Busy.no {x : Po} {page : Nat} (h : Busy x page) (h0 : ∀ g ∈ x.fs, g.hd = 0) (hm : 8 ≤ x.most) : False := by
  obtain ⟨h1, _, h3⟩ := h
  obtain ⟨f, hf⟩ : ∃ f, x.fs[0]? = some f := ⟨_, List.getElem?_eq_getElem (by omega)⟩
  exact h3 f (List.mem_of_getElem? hf) (h0 f (List.mem_of_getElem? hf))
end Go.Proofs.YtopaeomjndblkaaGreat

namespace Go.Proofs.YtopaeomjndblkaaGreat
open Go.RowKit Go.Maps

/-- A change: its record's place, its page, where, the old bytes, the new ones. -/
structure Ch where
  a : Nat
  pg : Nat
  off : Nat
  old : List UInt8
  new : List UInt8
def nextOf : List Ch → Int
  | [] => 0
  | c :: _ => (c.a : Int) + 1
def keptOf : List Ch → Int
  | [] => 0
  | c :: H => 51 + (c.new.length : Int) + keptOf H
theorem keptOf_nonneg : ∀ H, 0 ≤ keptOf H
  | [] => by simp [keptOf]
  | c :: H => by
    have := keptOf_nonneg H
    simp only [keptOf]
    omega
/-- A change's record. -/
def recOf (num turn prev : Int) (c : Ch) : Rec := ⟨(c.a : Int) + 1, turn, 1, num, prev, 0, (c.pg : Int), (c.off : Int), c.old, c.new⟩
/-- The log has a record at a place. -/
structure RecIn (y : Lo) (a : Nat) (r : Rec) : Prop where
  lo : y.A ≤ a
  hi : a < y.E
  mem : ((a : Int) + 1) ∈ y.ls
  right : rightB r = true
  bytes : ∃ tl, y.lb.drop (a - y.F) = encL r ++ tl
theorem RecIn.kin {y y' : Lo} {a : Nat} {r : Rec} (h : RecIn y a r) (k : Kin y y') : RecIn y' a r :=
  ⟨by rw [k.A]; exact h.lo, by rw [k.E]; exact h.hi, by rw [k.ls]; exact h.mem, h.right, by rw [k.lb a h.lo]; exact h.bytes⟩
theorem RecIn.appd {w : World} {y y' : Lo} {a N : Nat} {r r' : Rec} (h : RecIn y a r) (hy : LoAt w y) (k : Appd y y' N r') : RecIn y' a r := by
  refine ⟨by rw [k.A]; exact h.lo, by rw [k.E]; have := h.hi; omega, by rw [k.ls]; exact List.mem_append_left _ h.mem, h.right, ?_⟩
  obtain ⟨tl, htl⟩ := h.bytes
  have h1 := h.hi
  have h2 := hy.hn
  have h3 := hy.lbl
  rw [k.lb, k.F, List.drop_append_of_le_length (by omega), htl, List.append_assoc]
  exact ⟨_, rfl⟩
theorem RecIn.new {w : World} {y y' : Lo} {N : Nat} {r : Rec} (hy : LoAt w y) (k : Appd y y' N r) (hN : 1 ≤ N) (hr : rightB { r with lsn := (y.E : Int) + 1, turn := (y.T : Int) } = true) : RecIn y' y.E { r with lsn := (y.E : Int) + 1, turn := (y.T : Int) } := by
  refine ⟨by rw [k.A]; exact hy.hAE, by rw [k.E]; omega, by rw [k.ls]; simp, hr, ⟨[], ?_⟩⟩
  have h2 := hy.hn
  have h3 := hy.lbl
  rw [k.lb, k.F, List.append_nil, List.drop_append, List.drop_of_length_le (by omega), List.nil_append, show y.E - y.F - y.lb.length = 0 by omega, List.drop_zero]
/-- The log has the records of all changes, each with the lsn of the one ahead of it. -/
def Chain (y : Lo) (num : Int) : List Ch → Prop
  | [] => True
  | c :: H => RecIn y c.a (recOf num (y.T : Int) (nextOf H) c) ∧ nextOf H ≤ (c.a : Int) ∧ Chain y num H
theorem Chain.kin {y y' : Lo} {num : Int} (k : Kin y y') : ∀ {H : List Ch}, Chain y num H → Chain y' num H
  | [], _ => trivial
  | _ :: _, h => ⟨by rw [k.T]; exact h.1.kin k, h.2.1, Chain.kin k h.2.2⟩
theorem Chain.appd {w : World} {y y' : Lo} {num : Int} {N : Nat} {r : Rec} (hy : LoAt w y) (k : Appd y y' N r) : ∀ {H : List Ch}, Chain y num H → Chain y' num H
  | [], _ => trivial
  | _ :: _, h => ⟨by rw [k.T]; exact h.1.appd hy k, h.2.1, Chain.appd hy k h.2.2⟩
/-- Pages as they are. -/
def Pages := Nat → List UInt8
def setPg (V : Pages) (q : Nat) (l : List UInt8) : Pages := fun k => if k = q then l else V k
/-- A change undone. -/
def undo1 (c : Ch) (V : Pages) : Pages := setPg V c.pg (over (V c.pg) c.off c.old)
def undoAll : List Ch → Pages → Pages
  | [], V => V
  | c :: H, V => undoAll H (undo1 c V)
theorem over_back {l new : List UInt8} {off n : Nat} (hn : new.length = n) (hl : off + n ≤ l.length) : over (over l off new) off ((l.drop off).take n) = l := by
  have h1 : ((l.drop off).take n).length = n := by rw [List.length_take, List.length_drop]; omega
  have h2 : (l.take off).length = off := by rw [List.length_take]; omega
  have e1 : over l off new = l.take off ++ (new ++ l.drop (off + n)) := by unfold over; rw [hn]
  have e2 : (over l off new).take off = l.take off := by rw [e1]; exact List.take_left' h2
  have e3 : (over l off new).drop (off + n) = l.drop (off + n) := by
    rw [e1, ← List.append_assoc]
    exact List.drop_left' (by rw [List.length_append, h2, hn])
  show (over l off new).take off ++ ((l.drop off).take n ++ (over l off new).drop (off + ((l.drop off).take n).length)) = l
  rw [h1, e2, e3]
  have h3 : (l.drop off).take n ++ l.drop (off + n) = l.drop off := by
    rw [← List.drop_drop]
    exact List.take_append_drop n _
  rw [h3, List.take_append_drop]
theorem undo1_do {V : Pages} {c : Ch} (hn : c.old = ((V c.pg).drop c.off).take c.new.length) (hl : c.off + c.new.length ≤ (V c.pg).length) : undo1 c (setPg V c.pg (over (V c.pg) c.off c.new)) = V := by
  funext k
  unfold undo1 setPg
  by_cases e : k = c.pg
  · subst e
    rw [if_pos rfl, if_pos rfl, hn]
    exact over_back rfl hl
  · rw [if_neg e, if_neg e]
/-- All pages of a book are these. -/
def Shows (x : Po) (V : Pages) : Prop := ∀ q, q < x.pages → Val x q (V q)
theorem Shows.alike {x x' : Po} {V : Pages} (h : Shows x V) (k : Alike x x') : Shows x' V := fun q hq => k.2.2.2.2.2.2 q (by rw [← k.2.1]; exact hq) _ (h q (by rw [← k.2.1]; exact hq))
end Go.Proofs.YtopaeomjndblkaaGreat

namespace Go.Proofs.YtopaeomjndblkaaGreat.Pg

def byteAt (l : List UInt8) (k : Nat) : UInt8 := l.getD k 0
/-- The bit at a place of packed bytes. -/
def bitAt (l : List UInt8) (i : Nat) : Bool := (byteAt l (i / 8)).toNat.testBit (7 - i % 8)

theorem byteAt_lt {l : List UInt8} {k : Nat} (h : k < l.length) : byteAt l k = l[k] := by simp [byteAt, h]
theorem byteAt_ge {l : List UInt8} {k : Nat} (h : l.length ≤ k) : byteAt l k = 0 := by simp [byteAt, h]
theorem bitAt_ge {l : List UInt8} {i : Nat} (h : 8 * l.length ≤ i) : bitAt l i = false := by
  unfold bitAt
  rw [byteAt_ge (by omega)]
  simp
/-! ### single bytes -/
def andNot (x y : UInt8) : UInt8 := UInt8.ofNat (x.toNat &&& (255 - y.toNat))
/-! ### the walk's own forms -/
/-! ### rows -/
def bl (s : ByteArray) : List UInt8 := s.data.toList
theorem bl_length (s : ByteArray) : (bl s).length = s.size := rfl
def mkS (l : List UInt8) : ByteArray := ⟨l.toArray⟩
theorem bl_mkS (l : List UInt8) : bl (mkS l) = l := rfl
theorem mkS_size (l : List UInt8) : (mkS l).size = l.length := rfl
theorem get_byteAt (s : ByteArray) (k : Nat) (h : k < s.size) : s[k] = byteAt (bl s) k := by
  rw [byteAt_lt (by rw [bl_length]; exact h)]
  rfl

/-- A string and a length say a row of bits. -/
structure Rep (s : ByteArray) (n : Nat) (r : List Bool) : Prop where
  len : r.length = n
  most : n ≤ 1048576
  size : s.size = (n + 7) / 8
  bit : ∀ i, bitAt (bl s) i = r.getD i false

theorem Rep.of {l : List UInt8} {r : List Bool} (hn : r.length ≤ 1048576) (hl : l.length = (r.length + 7) / 8) (h : ∀ i, i < 8 * l.length → bitAt l i = r.getD i false) : Rep (mkS l) r.length r :=
  ⟨rfl, hn, by rw [mkS_size]; exact hl, fun i => by
    rw [bl_mkS]
    by_cases hi : i < 8 * l.length
    · exact h i hi
    · rw [bitAt_ge (by omega)]
      simp only [List.getD_eq_getElem?_getD]
      rw [List.getElem?_eq_none (by omega)]
      rfl⟩
theorem Rep.inj {s : ByteArray} {n : Nat} {r q : List Bool} (h : Rep s n r) (k : Rep s n q) : r = q := by
  apply List.ext_getElem (h.len.trans k.len.symm)
  intro i h1 h2
  have := (h.bit i).symm.trans (k.bit i)
  simpa [h1, h2] using this
theorem Rep.empty : Rep (mkS []) 0 [] := ⟨rfl, by omega, rfl, fun i => by rw [bl_mkS]; simp [bitAt, byteAt]⟩

end Go.Proofs.YtopaeomjndblkaaGreat.Pg


/-
  Load of a page that is taken.
-/
import Derived.Test.YthajipigppndgaaGreatY37Z
import Derived.Deep.RegionHeld3
namespace Go.Proofs.YthajipigppndgaaGreat
open Go.RowKit Go.Maps
def lkV (pg kind next rest : Int) (a : Option Addr) (n c : Nat) : Array Value := #[.int .i64 pg, .int .u8 kind, .int .i64 next, .int .i64 rest, .slice a n c]
set_option maxHeartbeats 1000000 in
set_option maxRecDepth 100000 in
theorem nall_any (w : World) (pg kind next rest : Int) (a : Option Addr) (n c : Nat) (h0 : 0 ≤ rest) (h1 : rest ≤ 1000000) (hn : n ≤ 1000000) :
    Calls Tryz.prog 167 #[.agg (lkV pg kind next rest a n c)] w fun e w' => e = .returned (.int .i64 ((n : Int) + rest)) ∧ Fr [] w w' := by
  have e1 : IntKind.i64.wrap ((n : Int) + rest) = (n : Int) + rest := wrapI _ (by omega) (by omega)
  have fa : Fr [] w (w.alloc (.cells (lkV pg kind next rest a n c) 79)) := (Fr.refl [] w).alloc _
  unfold lkV at *
  go_enter Tryz.func167, Tryz.ntmps167
  go_wp2_with fail
  go_ret
  exact ⟨rfl, fa⟩
def lkRight (next rest : Int) (n : Nat) : Bool := if rest = 0 then next == 0 else (decide (n = 502) && decide ((n : Int) + rest ≤ 65536))
set_option maxHeartbeats 2000000 in
set_option maxRecDepth 100000 in
theorem nright_any (w : World) (pg kind next rest : Int) (a : Option Addr) (n c : Nat) (h0 : 0 ≤ rest) (h1 : rest ≤ 1000000) (hn : n ≤ 1000000) :
    Calls Tryz.prog 236 #[.agg (lkV pg kind next rest a n c)] w fun e w' => e = .returned (.bool (lkRight next rest n)) ∧ Fr [] w w' := by
  have fa : Fr [] w (w.alloc (.cells (lkV pg kind next rest a n c) 79)) := (Fr.refl [] w).alloc _
  have AX := nall_any (w.alloc (.cells (lkV pg kind next rest a n c) 79)) pg kind next rest a n c h0 h1 hn
  unfold lkRight
  by_cases hr : rest = 0
  · subst hr
    rw [if_pos rfl]
    clear AX
    unfold lkV at *
    go_enter Tryz.func236, Tryz.ntmps236
    go_wp2_with fail
    go_ret
    exact ⟨rfl, fa⟩
  · rw [if_neg hr]
    have q0 : (rest == 0) = false := by rw [beq_eq_false_iff_ne]; exact hr
    by_cases h5 : n = 502
    · subst h5
      unfold lkV at *
      clear hr h0 h1
      go_enter Tryz.func236, Tryz.ntmps236
      go_wp2_with (go_at_call 167; refine AX.mono ?_; rintro e w2 ⟨rfl, f2⟩)
      go_ret
      exact ⟨by simp, fa.trans f2⟩
    · have q1 : ((n : Int) == 502) = false := by rw [beq_eq_false_iff_ne]; omega
      unfold lkV at *
      clear hr AX
      go_enter Tryz.func236, Tryz.ntmps236
      go_wp2_with fail
      go_ret
      exact ⟨by rw [decide_eq_false h5]; rfl, fa⟩
section
variable {ops : Array Oper} {rest : List Oper} {o : Oper} {a : Act} {w : World} {Q : Exit → Act → World → Prop}
theorem wp_storeL (hgd : o.guard = none) (x y : Operand) (ho : o.op = .store 79 x y) (b : Nat) (cs cs' : Array Value) (h5 : cs.size = 5) (h6 : cs'.size = 5) (h1 : (cs'.all fun v => v.oneCell') = true) (hx : a.eval x = .pointer (some ⟨b, 0, none⟩)) (hy : a.eval y = .agg cs') (hg : w.heap[b]? = some (.cells cs 79))
    (h : ∀ w', w'.heap[b]? = some (.cells cs' 79) → Fr [b] w w' → wpList Tryz.prog ops Q rest (a.put o.dst undef) w') : wpList Tryz.prog ops Q (o :: rest) a w :=
  wpList_store_row hgd 79 x y ho b cs' hx hy 79 cs hg (by rw [h6]; exact sizeLk) (by rw [h5, h6]) h1
    (h _ (setRow_heap w b _ _ _ _ hg) ⟨rfl, rfl, rfl, by simp, fun i _ hn => setRow_other w b i _ (fun e => hn (by simp [e]))⟩)
end
theorem noLink_one : (noLink.all fun v => v.oneCell') = true := by
  simp [noLink]
  repeat' apply And.intro
  all_goals rfl
theorem pget0 (w : World) (g c : Nat) (l : List UInt8) (h : Pg.SlAt w (some ⟨g, 0, none⟩) 512 c l) :
    Calls Tryz.prog 232 #[.slice (some ⟨g, 0, none⟩) 512 c, .int .i64 0] w fun e w' => Fr [] w w' ∧ ((Pg.cellsOf l = [] ∧ e = .returned (.tuple #[.slice none 0 0, .bool false])) ∨ ∃ cell cs b, Pg.cellsOf l = cell :: cs ∧ e = .returned (.tuple #[.slice (some ⟨b, 0, none⟩) cell.length cell.length, .bool true]) ∧ Hid (Blk w' b cell ∧ w.heap.size ≤ b)) := by
  rcases Pg.page_or l with ⟨h1, _⟩ | ⟨cs, h1, _, pg⟩
  · have e0 := Pg.cells_none h1
    refine (Pg.get_no w _ 512 c l 0 h (Or.inr (by rw [e0]; exact Int.le_refl _))).mono ?_
    rintro e w' ⟨rfl, hz⟩
    rw [hz]
    exact ⟨Fr.refl _ _, Or.inl ⟨e0, rfl⟩⟩
  · have e0 := Pg.cells_some h1
    cases cs with
    | nil =>
      refine (Pg.get_no w _ 512 c l 0 h (Or.inr (by rw [e0]; exact Int.le_refl _))).mono ?_
      rintro e w' ⟨rfl, hz⟩
      rw [hz]
      exact ⟨Fr.refl _ _, Or.inl ⟨e0, rfl⟩⟩
    | cons cell cs =>
      obtain ⟨g2, o2, ea, A5⟩ := h.at512 rfl
      cases ea
      refine (Pg.get_yes w g 0 c 0 l _ _ (cell :: cs) pg A5 (by simp)).mono ?_
      rintro e w' ⟨b, rfl, hb, hg, f⟩
      exact ⟨fr_pg f, Or.inr ⟨cell, cs, b, e0, rfl, hidI ⟨hb, hg⟩⟩⟩
set_option maxHeartbeats 4000000 in
set_option maxRecDepth 100000 in
theorem nparse_no (w : World) (g c : Nat) (l : List UInt8) (h : Pg.SlAt w (some ⟨g, 0, none⟩) 512 c l) (hc : ∀ cell, Pg.cellsOf l = [cell] → cell.length ≤ 2) :
    Calls Tryz.prog 166 #[.slice (some ⟨g, 0, none⟩) 512 c] w fun e w' => e = .returned (.tuple #[.agg noLink, .bool false]) ∧ Fr [] w w' := by
  have fa : Fr [] w (w.alloc (.cells noLink 79)) := (Fr.refl [] w).alloc _
  have ha := heap_alloc_new w (.cells noLink 79)
  have hk : ∀ w', Fr [] w w' → Pg.SlAt w' (some ⟨g, 0, none⟩) 512 c l := fun w' f => ⟨h.len, (show BytesAt w (some ⟨g, 0, none⟩) l from h.bytes).kept f (by simp), h.cap⟩
  have HK := hidI hk
  have GX := pget0 _ g c l (hk _ fa)
  have HC := hidI hc
  obtain ⟨z, hz⟩ : ∃ z, w.heap.size = z := ⟨_, rfl⟩
  rw [hz] at ha
  obtain ⟨w1, hw1⟩ : ∃ w1, w.alloc (.cells noLink 79) = w1 := ⟨_, rfl⟩
  rw [hw1] at fa ha GX
  have HA := hidI (And.intro fa ha)
  clear h hk hc fa ha
  unfold noLink at hw1
  go_enter Tryz.func166, Tryz.ntmps166
  go_upto_region 2 with (go_at_call 232; refine GX.mono ?_; rintro e w2 ⟨f2, hcase⟩; rcases hcase with ⟨h0, rfl⟩ | ⟨cell, cs, b, h0, rfl, hb⟩)
  all_goals
    have F2 := hidI (HA.out.1.trans f2)
    have B2 := hidI (f2.same (by simp) HA.out.2)
    have CX := Pg.count_any w2 _ 512 c l (HK.out w2 F2.out)
    rw [h0] at CX
  · go_wp2_with (first
      | (go_at_call 233; refine CX.mono ?_; rintro e wz ⟨rfl, hz⟩; rw [hz]; clear hz)
      | (refine wp_storeL rfl _ _ rfl z noLink noLink rfl rfl noLink_one rfl rfl B2.out ?_; intro w3 b3 f3))
    exact bodyPost_ret (resLT rfl _ _ z _ rfl rfl b3) rfl ⟨rfl, F2.out.then f3 (fun i hi hm => by
      have e := List.mem_singleton.1 hm
      omega)⟩
  · cases cs with
    | nil =>
      have hl2 := HC.out cell h0
      obtain ⟨n, hn⟩ : ∃ n, cell.length = n := ⟨_, rfl⟩
      rw [hn] at hl2 ⊢
      have q : (n : Int) ≤ 2 := by omega
      go_wp2_with (first
        | (go_at_call 233; refine CX.mono ?_; rintro e wz ⟨rfl, hz⟩; rw [hz]; clear hz)
        | (refine wp_storeL rfl _ _ rfl z noLink noLink rfl rfl noLink_one rfl rfl B2.out ?_; intro w3 b3 f3))
      exact bodyPost_ret (resLT rfl _ _ z _ rfl rfl b3) rfl ⟨rfl, F2.out.then f3 (fun i hi hm => by
        have e := List.mem_singleton.1 hm
        omega)⟩
    | cons c2 cs =>
      have q : ¬ ((cell :: c2 :: cs).length : Int) = 1 := by
        simp
        omega
      obtain ⟨n, hn⟩ : ∃ n : Int, ((cell :: c2 :: cs).length : Int) = n := ⟨_, rfl⟩
      rw [hn] at CX q
      go_wp2_with (first
        | (go_at_call 233; refine CX.mono ?_; rintro e wz ⟨rfl, hz⟩; rw [hz]; clear hz)
        | (refine wp_storeL rfl _ _ rfl z noLink noLink rfl rfl noLink_one rfl rfl B2.out ?_; intro w3 b3 f3))
      exact bodyPost_ret (resLT rfl _ _ z _ rfl rfl b3) rfl ⟨rfl, F2.out.then f3 (fun i hi hm => by
        have e := List.mem_singleton.1 hm
        omega)⟩
end Go.Proofs.YthajipigppndgaaGreat

namespace Go.Proofs.YthajipigppndgaaGreat
open Go.RowKit Go.Maps
def restOf (cell : List UInt8) : Int := (byteAt cell 0).toNat * 256 + (byteAt cell 1).toNat
section
variable {ops : Array Oper} {rest : List Oper} {o : Oper} {a : Act} {w : World} {Q : Exit → Act → World → Prop}
theorem wp_loadL (hgd : o.guard = none) (x : Operand) (ho : o.op = .load 79 x) (g : Nat) (cs : Array Value) (hc : cs.size = 5) (hx : a.eval x = .pointer (some ⟨g, 0, none⟩)) (hg : w.heap[g]? = some (.cells cs 79)) (h : wpList Tryz.prog ops Q rest (a.put o.dst (.agg cs)) w) : wpList Tryz.prog ops Q (o :: rest) a w :=
  wpList_load_row hgd 79 x ho g hx 79 cs _ _ hg Tryz.underlying79 rfl (by rw [sizeLk, hc]) h
end
theorem put5 {w : World} {z : Nat} {T : TypeId} {c0 c1 c2 c3 c4 : Value} (v0 v1 v2 v3 v4 : Value) (h : w.heap[z]? = some (.cells #[c0, c1, c2, c3, c4] T)) :
    (((((w.setCell ⟨z, 0, none⟩ v0).setCell ⟨z, 1, none⟩ v1).setCell ⟨z, 2, none⟩ v2).setCell ⟨z, 3, none⟩ v3).setCell ⟨z, 4, none⟩ v4).heap[z]? = some (.cells #[v0, v1, v2, v3, v4] T) := by
  have h1 := heap_setCell_same w z 0 _ _ v0 h
  have h2 := heap_setCell_same _ z 1 _ _ v1 h1
  have h3 := heap_setCell_same _ z 2 _ _ v2 h2
  have h4 := heap_setCell_same _ z 3 _ _ v3 h3
  have h5 := heap_setCell_same _ z 4 _ _ v4 h4
  rw [h5]
  simp
theorem fr5 {a w : World} {z : Nat} (h : Fr [z] a w) (v0 v1 v2 v3 v4 : Value) : Fr [z] a (((((w.setCell ⟨z, 0, none⟩ v0).setCell ⟨z, 1, none⟩ v1).setCell ⟨z, 2, none⟩ v2).setCell ⟨z, 3, none⟩ v3).setCell ⟨z, 4, none⟩ v4) :=
  ((((h.setCell _ v0 (by simp)).setCell _ v1 (by simp)).setCell _ v2 (by simp)).setCell _ v3 (by simp)).setCell _ v4 (by simp)
theorem lkV_one (pg kind next rest : Int) (ad : Option Addr) (n c : Nat) : ((lkV pg kind next rest ad n c).all fun v => v.oneCell') = true := by
  simp [lkV]
  repeat' apply And.intro
  all_goals rfl
set_option maxHeartbeats 4000000 in
set_option maxRecDepth 100000 in
theorem nparse_yes (w : World) (g c : Nat) (l cell : List UInt8) (h : Pg.SlAt w (some ⟨g, 0, none⟩) 512 c l) (hc : Pg.cellsOf l = [cell]) (hl : 2 < cell.length) (hl2 : cell.length ≤ 1000) :
    Calls Tryz.prog 166 #[.slice (some ⟨g, 0, none⟩) 512 c] w fun e w' => ∃ b, e = .returned (.tuple #[.agg (lkV 0 (Pg.kindOf l) (Pg.nextOf l) (restOf cell) (some ⟨b, 2, none⟩) (cell.length - 2) (cell.length - 2)), .bool (lkRight (Pg.nextOf l) (restOf cell) (cell.length - 2))]) ∧ Hid (Blk w' b cell ∧ w.heap.size ≤ b) ∧ Fr [] w w' := by
  have fa : Fr [] w (w.alloc (.cells noLink 79)) := (Fr.refl [] w).alloc _
  have ha := heap_alloc_new w (.cells noLink 79)
  have hk : ∀ w', Fr [] w w' → Pg.SlAt w' (some ⟨g, 0, none⟩) 512 c l := fun w' f => ⟨h.len, (show BytesAt w (some ⟨g, 0, none⟩) l from h.bytes).kept f (by simp), h.cap⟩
  have HK := hidI hk
  have GX := pget0 _ g c l (hk _ fa)
  obtain ⟨z, hz⟩ : ∃ z, w.heap.size = z := ⟨_, rfl⟩
  rw [hz] at ha
  obtain ⟨w1, hw1⟩ : ∃ w1, w.alloc (.cells noLink 79) = w1 := ⟨_, rfl⟩
  rw [hw1] at fa ha GX
  have HA := hidI (And.intro fa ha)
  have hs1 : w.heap.size ≤ w1.heap.size := fa.size
  have HS1 := hidI hs1
  clear h hk fa ha hs1
  unfold noLink at hw1
  go_enter Tryz.func166, Tryz.ntmps166
  go_upto_region 2 with (go_at_call 232; refine GX.mono ?_; rintro e w2 ⟨f2, hcase⟩; rcases hcase with ⟨h0, rfl⟩ | ⟨cell2, cs, b, h0, rfl, hb⟩)
  · rw [hc] at h0
    cases h0
  · rw [hc] at h0
    cases h0
    have F2 := hidI (HA.out.1.trans f2)
    have B2 := hidI (f2.same (by simp) HA.out.2)
    have CX := Pg.count_any w2 _ 512 c l (HK.out w2 F2.out)
    rw [hc] at CX
    obtain ⟨n, hn⟩ : ∃ n, cell.length = n := ⟨_, rfl⟩
    have HN := hidI hn
    rw [hn] at hl hl2 ⊢
    have q : ¬ (n : Int) ≤ 2 := by omega
    have i1 : (0 : Int) < (n : Int) := by omega
    have i2 : (1 : Int) < (n : Int) := by omega
    have i3 : (2 : Int) ≤ (n : Int) := by omega
    have i4 : ¬ n = 2 := by omega
    have i5 : 0 < n := by omega
    clear GX hc hn f2
    go_upto_region 4 with (go_at_call 233; refine CX.mono ?_; rintro e wz ⟨rfl, hz⟩; rw [hz]; clear hz)
    have b0 : w2.cell? ⟨b, 0, none⟩ = some (.int .u8 (byteAt cell 0).toNat) := hb.out.1.cell 0 (by have := HN.out; omega)
    have b1 : w2.cell? ⟨b, 1, none⟩ = some (.int .u8 (byteAt cell 1).toNat) := hb.out.1.cell 1 (by have := HN.out; omega)
    have KC : Hid (∀ w', Fr [] w2 w' → w'.cell? ⟨b, 0, none⟩ = some (.int .u8 (byteAt cell 0).toNat) ∧ w'.cell? ⟨b, 1, none⟩ = some (.int .u8 (byteAt cell 1).toNat)) := hidI (fun w' f => by
      have hb' := hb.out.1.kept f (by simp)
      exact ⟨hb'.cell 0 (by have := HN.out; omega), hb'.cell 1 (by have := HN.out; omega)⟩)
    have KX : Hid (∀ w', Fr [] w2 w' → Calls Tryz.prog 234 #[.slice (some ⟨g, 0, none⟩) 512 c] w' fun r w'' => r = .returned (.int .u8 (Pg.kindOf l)) ∧ w'' = w') := hidI (fun w' f => Pg.kind_any w' _ 512 c l (HK.out w' (F2.out.trans f)))
    have NX : Hid (∀ w', Fr [] w2 w' → Calls Tryz.prog 235 #[.slice (some ⟨g, 0, none⟩) 512 c] w' fun r w'' => r = .returned (.int .i64 (Pg.nextOf l)) ∧ w'' = w') := hidI (fun w' f => Pg.next_any w' _ 512 c l (HK.out w' (F2.out.trans f)))
    clear CX
    obtain ⟨x0, hx0⟩ : ∃ x0 : Nat, (byteAt cell 0).toNat = x0 := ⟨_, rfl⟩
    obtain ⟨x1, hx1⟩ : ∃ x1 : Nat, (byteAt cell 1).toNat = x1 := ⟨_, rfl⟩
    have l0 : x0 < 256 := by rw [← hx0]; exact UInt8.toNat_lt _
    have l1 : x1 < 256 := by rw [← hx1]; exact UInt8.toNat_lt _
    have hre : restOf cell = (x0 : Int) * 256 + x1 := by unfold restOf; rw [hx0, hx1]
    have HRE := hidI hre
    rw [hx0] at b0 KC
    rw [hx1] at b1 KC
    have u0 : IntKind.i64.wrap (x0 : Int) = x0 := wrapI _ (by omega) (by omega)
    have u1 : IntKind.i64.wrap (x1 : Int) = x1 := wrapI _ (by omega) (by omega)
    have u2 : IntKind.i64.wrap ((x0 : Int) * 256) = (x0 : Int) * 256 := wrapI _ (by omega) (by omega)
    have u3 : bits .or .i64 ((x0 : Int) * 256) (x1 : Int) = (x0 : Int) * 256 + x1 := bits_join .i64 63 (by decide) (fun n h0 h1 => wrapI n (by omega) (by omega)) 8 _ _ (by omega) (by omega) (by omega) (by omega) (by omega) (by omega)
    have HL := hidI (And.intro l0 l1)
    clear hre hx0 hx1 l0 l1
    go_cut [6] from 21 to 37 (fun s6 wx => ∃ a, s6 = .pointer (some ⟨a, 0, none⟩) ∧ Hid (wx.heap[a]? = some (.cells (lkV 0 (Pg.kindOf l) (Pg.nextOf l) ((x0 : Int) * 256 + x1) (some ⟨b, 2, none⟩) (n - 2) (n - 2)) 79) ∧ Fr [] w2 wx ∧ w2.heap.size ≤ a))
    case first =>
      go_region_held3 (fun w' => w'.cell? ⟨b, 0, none⟩ = some (.int .u8 (x0 : Int)) ∧ w'.cell? ⟨b, 1, none⟩ = some (.int .u8 (x1 : Int))) (first | exact KC.out _ (Fr.refl [] w2).drew | exact KC.out _ ((Fr.refl [] w2).drew.alloc _) | exact KC.out _ (((Fr.refl [] w2).alloc _).drew)) ((first
        | (go_at_call 234; refine (KX.out _ (by first | exact (Fr.refl [] w2).drew | exact ((Fr.refl [] w2).alloc _).drew | exact (Fr.refl [] w2).drew.alloc _)).mono ?_; rintro e wz ⟨rfl, hz⟩; rw [hz]; clear hz)
        | (go_at_call 235; refine (NX.out _ (by first | exact (Fr.refl [] w2).drew | exact ((Fr.refl [] w2).alloc _).drew | exact (Fr.refl [] w2).drew.alloc _)).mono ?_; rintro e wz ⟨rfl, hz⟩; rw [hz]; clear hz)))
      all_goals go_wp2
      all_goals go_meet
      all_goals exact ⟨_, rfl, hidI ⟨heap_alloc_new w2 _, ((Fr.refl [] w2).alloc _).drew, Nat.le_refl _⟩⟩
    obtain ⟨ab, rfl, H6⟩ := hcut
    have B6 := hidI (H6.out.2.1.same (by simp) B2.out)
    clear KC KX NX b0 b1 u0 u1 u2 u3
    obtain ⟨R, hR⟩ : ∃ R : Int, (x0 : Int) * 256 + x1 = R := ⟨_, rfl⟩
    have hR2 : 0 ≤ R ∧ R ≤ 1000000 := by
      have := HL.out
      omega
    rw [hR] at H6 HRE
    have RX : Hid (∀ w', Calls Tryz.prog 236 #[.agg (lkV 0 (Pg.kindOf l) (Pg.nextOf l) R (some ⟨b, 2, none⟩) (n - 2) (n - 2))] w' fun e w'' => e = .returned (.bool (lkRight (Pg.nextOf l) R (n - 2))) ∧ Fr [] w' w'') := hidI (fun w' => nright_any w' 0 _ _ R _ (n - 2) (n - 2) hR2.1 hR2.2 (by omega))
    obtain ⟨bR, hbR⟩ : ∃ bR, lkRight (Pg.nextOf l) R (n - 2) = bR := ⟨_, rfl⟩
    have HBR := hidI hbR
    rw [hbR] at RX
    unfold lkV at RX
    have hz1 : z < w1.heap.size := (Array.getElem?_eq_some_iff.1 HA.out.2).1
    have hz2 : z < w2.heap.size := (Array.getElem?_eq_some_iff.1 B2.out).1
    have hza : ab ≠ z := by
      have := H6.out.2.2
      omega
    have hzb : b ≠ z := by
      have := hb.out.2
      omega
    have CC : Hid (∀ w', Fr [z] wc w' → w'.cell? ⟨ab, 0, none⟩ = some (.int .i64 0) ∧ w'.cell? ⟨ab, 1, none⟩ = some (.int .u8 (Pg.kindOf l)) ∧ w'.cell? ⟨ab, 2, none⟩ = some (.int .i64 (Pg.nextOf l)) ∧ w'.cell? ⟨ab, 3, none⟩ = some (.int .i64 R) ∧ w'.cell? ⟨ab, 4, none⟩ = some (.slice (some ⟨b, 2, none⟩) (n - 2) (n - 2))) := hidI (fun w' f => by
      have h := f.same (by simp [hza]) H6.out.1
      exact ⟨cell_of_row w' ab 0 _ _ _ h, cell_of_row w' ab 1 _ _ _ h, cell_of_row w' ab 2 _ _ _ h, cell_of_row w' ab 3 _ _ _ h, cell_of_row w' ab 4 _ _ _ h⟩)
    have gg : Fr [z] wc wc.drew := (Fr.refl [z] wc).drew
    have zz : wc.drew.heap[z]? = some (.cells noLink 79) := (Fr.refl [] wc).drew.same (by simp) B6.out
    have zc0 : wc.drew.cell? ⟨z, 0, none⟩ = some (.int .i64 0) := cell_of_row wc.drew z 0 _ _ _ zz
    have zf0 := frozen_of_row wc.drew z 0 _ _ zz
    have zc1 : wc.drew.cell? ⟨z, 1, none⟩ = some (.int .u8 0) := cell_of_row wc.drew z 1 _ _ _ zz
    have zf1 := frozen_of_row wc.drew z 1 _ _ zz
    have zc2 : wc.drew.cell? ⟨z, 2, none⟩ = some (.int .i64 0) := cell_of_row wc.drew z 2 _ _ _ zz
    have zf2 := frozen_of_row wc.drew z 2 _ _ zz
    have zc3 : wc.drew.cell? ⟨z, 3, none⟩ = some (.int .i64 0) := cell_of_row wc.drew z 3 _ _ _ zz
    have zf3 := frozen_of_row wc.drew z 3 _ _ zz
    have zc4 : wc.drew.cell? ⟨z, 4, none⟩ = some (.slice none 0 0) := cell_of_row wc.drew z 4 _ _ _ zz
    have zf4 := frozen_of_row wc.drew z 4 _ _ zz
    have HN2 := hidI (And.intro hza hzb)
    have HZ := hidI hz
    clear hw1 hR hR2 hbR hz1 hz2 hza hzb hz
    go_wp2_with fail
    go_region_held3 (fun w' => w'.cell? ⟨ab, 0, none⟩ = some (.int .i64 0) ∧ w'.cell? ⟨ab, 1, none⟩ = some (.int .u8 (Pg.kindOf l)) ∧ w'.cell? ⟨ab, 2, none⟩ = some (.int .i64 (Pg.nextOf l)) ∧ w'.cell? ⟨ab, 3, none⟩ = some (.int .i64 R) ∧ w'.cell? ⟨ab, 4, none⟩ = some (.slice (some ⟨b, 2, none⟩) (n - 2) (n - 2))) (first | exact CC.out _ gg | exact CC.out _ (fr5 gg _ _ _ _ _) | exact CC.out _ (gg.mono (by simp)))
      ((go_at_call 236; refine (RX.out _).mono ?_; rintro e w7 ⟨rfl, f7⟩; first
        | (replace zz := f7.same (by simp) zz; replace gg := gg.trans (f7.mono (by simp)); have zc0 : w7.cell? ⟨z, 0, none⟩ = some (.int .i64 0) := cell_of_row w7 z 0 _ _ _ zz; have zf0 := frozen_of_row w7 z 0 _ _ zz; have zc1 : w7.cell? ⟨z, 1, none⟩ = some (.int .u8 0) := cell_of_row w7 z 1 _ _ _ zz; have zf1 := frozen_of_row w7 z 1 _ _ zz; have zc2 : w7.cell? ⟨z, 2, none⟩ = some (.int .i64 0) := cell_of_row w7 z 2 _ _ _ zz; have zf2 := frozen_of_row w7 z 2 _ _ zz; have zc3 : w7.cell? ⟨z, 3, none⟩ = some (.int .i64 0) := cell_of_row w7 z 3 _ _ _ zz; have zf3 := frozen_of_row w7 z 3 _ _ zz; have zc4 : w7.cell? ⟨z, 4, none⟩ = some (.slice none 0 0) := cell_of_row w7 z 4 _ _ _ zz; have zf4 := frozen_of_row w7 z 4 _ _ zz)
        | (have zz' := f7.same (by simp) (put5 _ _ _ _ _ zz); replace zz := zz'; replace gg := (fr5 gg _ _ _ _ _).trans (f7.mono (by simp)))))
    all_goals go_wp2
    all_goals (first
      | (have zl := put5 (.int .i64 0) (.int .u8 (Pg.kindOf l)) (.int .i64 (Pg.nextOf l)) (.int .i64 R) (.slice (some ⟨b, 2, none⟩) (n - 2) (n - 2)) zz; have gl := fr5 gg (.int .i64 0) (.int .u8 (Pg.kindOf l)) (.int .i64 (Pg.nextOf l)) (.int .i64 R) (.slice (some ⟨b, 2, none⟩) (n - 2) (n - 2)))
      | (have zl := zz; have gl := gg))
    all_goals exact bodyPost_ret (resLT rfl _ _ z _ rfl rfl zl) rfl ⟨b, by rw [HRE.out, HN.out, HBR.out]; rfl, hidI ⟨(hb.out.1.kept H6.out.2.1 (by simp)).kept gl (by simp [HN2.out.2]), by have := HS1.out; have := hb.out.2; omega⟩, (F2.out.trans H6.out.2.1).then gl (fun i hi hm => by
      have e := List.mem_singleton.1 hm
      have := HZ.out
      omega)⟩
end Go.Proofs.YthajipigppndgaaGreat

namespace Go.Proofs.YthajipigppndgaaGreat
open Go.RowKit Go.Maps
theorem cell_len {l cell : List UInt8} (_hl : l.length = 512) (hc : Pg.cellsOf l = [cell]) : cell.length ≤ 1000 := by
  rcases Pg.page_or l with ⟨h1, _⟩ | ⟨cs, h1, _, pg⟩
  · rw [Pg.cells_none h1] at hc
    cases hc
  · rw [Pg.cells_some h1] at hc
    subst hc
    have h2 := pg.fits
    rw [Pg.elen_cons] at h2
    omega
def lkOk (l : List UInt8) : Bool := match Pg.cellsOf l with
  | [cell] => decide (2 < cell.length) && lkRight (Pg.nextOf l) (restOf cell) (cell.length - 2)
  | _ => false
theorem nparse_any (w : World) (g c : Nat) (l : List UInt8) (h : Pg.SlAt w (some ⟨g, 0, none⟩) 512 c l) :
    Calls Tryz.prog 166 #[.slice (some ⟨g, 0, none⟩) 512 c] w fun e w' => ∃ vs : Array Value, e = .returned (.tuple #[.agg vs, .bool (lkOk l)]) ∧ Hid (((vs = noLink ∧ lkOk l = false) ∨ ∃ cell b, Pg.cellsOf l = [cell] ∧ 2 < cell.length ∧ vs = lkV 0 (Pg.kindOf l) (Pg.nextOf l) (restOf cell) (some ⟨b, 2, none⟩) (cell.length - 2) (cell.length - 2) ∧ Blk w' b cell ∧ w.heap.size ≤ b) ∧ Fr [] w w') := by
  by_cases hy : ∃ cell, Pg.cellsOf l = [cell] ∧ 2 < cell.length
  · obtain ⟨cell, hc, h2⟩ := hy
    have e0 : lkOk l = lkRight (Pg.nextOf l) (restOf cell) (cell.length - 2) := by
      unfold lkOk
      rw [hc]
      simp [h2]
    refine (nparse_yes w g c l cell h hc h2 (cell_len h.len hc)).mono ?_
    rintro e w' ⟨b, rfl, hb, f⟩
    exact ⟨_, by rw [e0], hidI ⟨Or.inr ⟨cell, b, hc, h2, rfl, hb.out.1, hb.out.2⟩, f⟩⟩
  · have hn : ∀ cell, Pg.cellsOf l = [cell] → cell.length ≤ 2 := fun cell hc => by
      by_cases h2 : 2 < cell.length
      · exact absurd ⟨cell, hc, h2⟩ hy
      · omega
    have e0 : lkOk l = false := by
      unfold lkOk
      split
      · rename_i cell hc
        have := hn cell hc
        simp [show ¬ 2 < cell.length by omega]
      · rfl
    refine (nparse_no w g c l h hn).mono ?_
    rintro e w' ⟨rfl, f⟩
    exact ⟨_, by rw [e0], hidI ⟨Or.inl ⟨rfl, e0⟩, f⟩⟩
section
variable {w0 w : World} {bp : Nat} {b : Bk} {K : List (Nat × Obj)} (h : Ab w0 w bp b K)
include h
set_option maxHeartbeats 2000000 in
set_option maxRecDepth 100000 in
theorem sheet_in {V : Pages} (hv : Shows b.x V) (hp : b.x.pages ≤ 1000000) (k : Nat) (h1 : sheetOwn b.x.pages ≤ k) (h2 : k < b.x.pages) :
    Calls Tryz.prog 165 #[.pointer (some ⟨bp, 0, none⟩), .int .i64 (k : Int)] w fun e w' => ∃ g b', e = .returned (.tuple #[.slice (some ⟨g, 0, none⟩) 512 512, .int .i64 0]) ∧ Hid (Rd w0 w' bp K b b' ∧ Blk w' g (V k) ∧ g ∉ b'.dp :: b'.x.own ∧ w.heap.size ≤ g) := by
  have PX := ab_pages h
  have GX := rd_page h hv h2
  obtain ⟨p, hpp⟩ : ∃ p, b.x.pages = p := ⟨_, rfl⟩
  rw [hpp] at PX hp h1 h2
  obtain ⟨own, hown⟩ : ∃ own : Nat, sheetOwn p = own := ⟨_, rfl⟩
  have e1 : IntKind.i64.wrap ((p : Int) + 4096) = (p : Int) + 4096 := wrapI _ (by omega) (by omega)
  have e2 : IntKind.i64.wrap ((p : Int) + 4096 - 1) = (p : Int) + 4095 := by rw [wrapI _ (by omega) (by omega)]; omega
  have e3 : Int.tdiv ((p : Int) + 4095) 4096 = (((p + 4095) / 4096 : Nat) : Int) := by
    rw [Int.tdiv_eq_ediv_of_nonneg (by omega)]
    omega
  have e4 : IntKind.i64.wrap (1 + (((p + 4095) / 4096 : Nat) : Int)) = (own : Int) := by
    rw [wrapI _ (by omega) (by omega), ← hown]
    unfold sheetOwn
    omega
  rw [hown] at h1
  have hdv : (own : Int) = 1 + ((p : Int) + 4095) / 4096 := by
    rw [← hown]
    unfold sheetOwn
    omega
  have hlo2 : ¬ (k : Int) < 1 + ((p : Int) + 4095) / 4096 := by omega
  have hlo3 : ¬ (k : Int) < (own : Int) := by omega
  have hhi : ¬ (p : Int) ≤ (k : Int) := by omega
  clear h hv hpp hown hdv h1 h2
  go_enter Tryz.func165, Tryz.ntmps165
  go_wp2_with (first
    | (go_at_call 16; refine PX.mono ?_; rintro e wz ⟨rfl, hz⟩; rw [hz]; clear hz)
    | (go_at_call 106; refine GX.mono ?_; rintro e w2 ⟨g, b', rfl, P⟩))
  go_ret2
  exact ⟨g, b', rfl, P⟩
set_option maxHeartbeats 4000000 in
set_option maxRecDepth 100000 in
theorem nload_free {V : Pages} (hv : Shows b.x V) (hp3 : 3 ≤ b.x.pages) (hp : b.x.pages ≤ 1000000) (hd : IsHd b.x.pages (V 0)) (k : Nat) (h1 : sheetOwn b.x.pages ≤ k) (h2 : k < b.x.pages) (hm : MkB V k = false) (kind : Int) :
    Calls Tryz.prog 91 #[.pointer (some ⟨bp, 0, none⟩), .int .i64 (k : Int), .int .u8 kind] w fun e w' => ∃ b', e = .returned (.tuple #[.agg noLink, .int .i64 4]) ∧ Hid (Rd w0 w' bp K b b') := by
  have HF := hidI (And.intro (h.fresh (Nat.le_refl _)).1 (h.fresh (Nat.le_refl _)).2.2)
  have A1 := (h.quiet ((Fr.refl [] w).alloc (.cells noLink 79))).add (heap_alloc_new w (.cells noLink 79)) (h.fresh (Nat.le_refl _)).2.1
  obtain ⟨z, hz⟩ : ∃ z, w.heap.size = z := ⟨_, rfl⟩
  obtain ⟨w1, hw1⟩ : ∃ w1, w.alloc (.cells noLink 79) = w1 := ⟨_, rfl⟩
  rw [hz, hw1] at A1
  rw [hz] at HF
  have PX := sheet_in A1 hv hp k h1 h2
  have HV := hidI hv
  have HP := hidI (And.intro hp3 (And.intro hp h2))
  have HD := hidI hd
  have HM := hidI hm
  clear h A1 hv hp3 hp hd h1 h2 hm
  unfold noLink at hw1
  go_enter Tryz.func91, Tryz.ntmps91
  go_wp2_with (first
    | (go_at_call 165
       refine PX.mono ?_
       rintro e w2 ⟨g, b1, rfl, P⟩
       have A2 := P.out.1.ab.add P.out.2.1 P.out.2.2.1
       have TX := rd_taken A2 (P.out.1.sh V HV.out) (by rw [P.out.1.tr.pages]; exact HP.out.1) (by rw [P.out.1.tr.pages]; exact HP.out.2.1) (by rw [P.out.1.tr.pages]; exact HD.out) k (by rw [P.out.1.tr.pages]; exact HP.out.2.2)
       have hl : (V k).length = 512 := P.out.1.ab.len (P.out.1.sh V HV.out) (by rw [P.out.1.tr.pages]; exact HP.out.2.2)
       rw [HM.out] at TX
       clear A2)
    | (go_at_call 33
       refine TX.mono ?_
       rintro e w3 ⟨b2, rfl, P2⟩
       have kb := P2.out.ab.kp _ (List.mem_cons_self ..)
       have bl : Blk w3 g (V k) := kb.1
       have NX := nparse_any w3 g 512 (V k) ⟨hl, bl.bytes, Nat.le_refl _⟩
       have hz3 : w3.heap[z]? = some (.cells noLink 79) := (P2.out.ab.kp (z, .cells noLink 79) (by simp)).1
       have HZ3 := hidI hz3
       clear kb bl hz3)
    | (go_at_call 166
       refine NX.mono ?_
       rintro e w4 ⟨vs, rfl, N⟩
       have hs : vs.size = 5 ∧ (vs.all fun v => v.oneCell') = true := by
         rcases N.out.1 with ⟨hv, _⟩ | ⟨_, _, _, _, hv, _⟩
         · rw [hv]
           exact ⟨rfl, noLink_one⟩
         · rw [hv]
           exact ⟨rfl, lkV_one _ _ _ _ _ _ _⟩
       have HS := hidI hs
       have Z4 := heap_alloc_new w4 (.cells noLink 79)
       have N4 := hidI (N.out.2.alloc (.cells noLink 79))
       have hg4 := N4.out.size
       clear hs)
    | (refine wp_storeL rfl _ _ rfl w4.heap.size noLink vs rfl HS.out.1 HS.out.2 rfl rfl Z4 ?_
       intro w5 b5 f5
       have hz4 : w4.heap[z]? = some (.cells noLink 79) := N.out.2.same (by simp) HZ3.out
       have hzl : z < w4.heap.size := (Array.getElem?_eq_some_iff.1 hz4).1
       have F5 : Hid (Fr [] w3 w5) := hidI (N4.out.then f5 (fun i hi hm => by
         have e := List.mem_singleton.1 hm
         have := N.out.2.size
         omega))
       have hz5 := F5.out.same (by simp) HZ3.out
       have HZ5 := hidI hz5
       clear f5 hz4 hzl hz5)
    | (refine wp_storeL rfl _ _ rfl z noLink noLink rfl rfl noLink_one rfl rfl HZ5.out ?_
       intro w6 b6 f6))
  exact bodyPost_ret (resLT rfl _ _ z _ rfl rfl b6) rfl ⟨b2, rfl, hidI (by
    have a5 := (P2.out.ab.quiet F5.out).less (K' := K) (fun p hp => by simp [hp])
    have aw := a5.bk.away HZ5.out (by decide) (by decide) (by decide) (by decide)
    have a6 := a5.put f6 aw.1 aw.2.1 aw.2.2 HF.out.1 HF.out.2
    exact (P.out.1.trans P2.out).on a6)⟩
end
end Go.Proofs.YthajipigppndgaaGreat

namespace Go.Proofs.YthajipigppndgaaGreat
open Go.RowKit Go.Maps
section
variable {w0 w : World} {bp : Nat} {b : Bk} {K : List (Nat × Obj)} (h : Ab w0 w bp b K)
include h
set_option maxHeartbeats 4000000 in
set_option maxRecDepth 100000 in
theorem nload_wrong {V : Pages} (hv : Shows b.x V) (hp3 : 3 ≤ b.x.pages) (hp : b.x.pages ≤ 1000000) (hd : IsHd b.x.pages (V 0)) (k : Nat) (h1 : sheetOwn b.x.pages ≤ k) (h2 : k < b.x.pages) (hm : MkB V k = true) (ho : lkOk (V k) = false) (kind : Int) :
    Calls Tryz.prog 91 #[.pointer (some ⟨bp, 0, none⟩), .int .i64 (k : Int), .int .u8 kind] w fun e w' => ∃ b', e = .returned (.tuple #[.agg noLink, .int .i64 4]) ∧ Hid (Rd w0 w' bp K b b') := by
  have HF := hidI (And.intro (h.fresh (Nat.le_refl _)).1 (h.fresh (Nat.le_refl _)).2.2)
  have A1 := (h.quiet ((Fr.refl [] w).alloc (.cells noLink 79))).add (heap_alloc_new w (.cells noLink 79)) (h.fresh (Nat.le_refl _)).2.1
  obtain ⟨z, hz⟩ : ∃ z, w.heap.size = z := ⟨_, rfl⟩
  obtain ⟨w1, hw1⟩ : ∃ w1, w.alloc (.cells noLink 79) = w1 := ⟨_, rfl⟩
  rw [hz, hw1] at A1
  rw [hz] at HF
  have PX := sheet_in A1 hv hp k h1 h2
  have HV := hidI hv
  have HP := hidI (And.intro hp3 (And.intro hp h2))
  have HD := hidI hd
  have HM := hidI hm
  have HO := hidI ho
  clear h A1 hv hp3 hp hd h1 h2 hm ho
  unfold noLink at hw1
  go_enter Tryz.func91, Tryz.ntmps91
  go_wp2_with (first
    | (go_at_call 165
       refine PX.mono ?_
       rintro e w2 ⟨g, b1, rfl, P⟩
       have A2 := P.out.1.ab.add P.out.2.1 P.out.2.2.1
       have TX := rd_taken A2 (P.out.1.sh V HV.out) (by rw [P.out.1.tr.pages]; exact HP.out.1) (by rw [P.out.1.tr.pages]; exact HP.out.2.1) (by rw [P.out.1.tr.pages]; exact HD.out) k (by rw [P.out.1.tr.pages]; exact HP.out.2.2)
       have hl : (V k).length = 512 := P.out.1.ab.len (P.out.1.sh V HV.out) (by rw [P.out.1.tr.pages]; exact HP.out.2.2)
       rw [HM.out] at TX
       clear A2)
    | (go_at_call 33
       refine TX.mono ?_
       rintro e w3 ⟨b2, rfl, P2⟩
       have kb := P2.out.ab.kp _ (List.mem_cons_self ..)
       have bl : Blk w3 g (V k) := kb.1
       have NX := nparse_any w3 g 512 (V k) ⟨hl, bl.bytes, Nat.le_refl _⟩
       rw [HO.out] at NX
       have hz3 : w3.heap[z]? = some (.cells noLink 79) := (P2.out.ab.kp (z, .cells noLink 79) (by simp)).1
       have HZ3 := hidI hz3
       clear kb bl hz3)
    | (go_at_call 166
       refine NX.mono ?_
       rintro e w4 ⟨vs, rfl, N⟩
       have hs : vs.size = 5 ∧ (vs.all fun v => v.oneCell') = true := by
         rcases N.out.1 with ⟨hv, _⟩ | ⟨_, _, _, _, hv, _⟩
         · rw [hv]
           exact ⟨rfl, noLink_one⟩
         · rw [hv]
           exact ⟨rfl, lkV_one _ _ _ _ _ _ _⟩
       have HS := hidI hs
       have Z4 := heap_alloc_new w4 (.cells noLink 79)
       have N4 := hidI (N.out.2.alloc (.cells noLink 79))
       have hg4 := N4.out.size
       clear hs)
    | (refine wp_storeL rfl _ _ rfl w4.heap.size noLink vs rfl HS.out.1 HS.out.2 rfl rfl Z4 ?_
       intro w5 b5 f5
       have hz4 : w4.heap[z]? = some (.cells noLink 79) := N.out.2.same (by simp) HZ3.out
       have hzl : z < w4.heap.size := (Array.getElem?_eq_some_iff.1 hz4).1
       have F5 : Hid (Fr [] w3 w5) := hidI (N4.out.then f5 (fun i hi hm => by
         have e := List.mem_singleton.1 hm
         have := N.out.2.size
         omega))
       have hz5 := F5.out.same (by simp) HZ3.out
       have HZ5 := hidI hz5
       clear f5 hz4 hzl hz5)
    | (refine wp_storeL rfl _ _ rfl z noLink noLink rfl rfl noLink_one rfl rfl HZ5.out ?_
       intro w6 b6 f6))
  exact bodyPost_ret (resLT rfl _ _ z _ rfl rfl b6) rfl ⟨b2, rfl, hidI (by
    have a5 := (P2.out.ab.quiet F5.out).less (K' := K) (fun p hp => by simp [hp])
    have aw := a5.bk.away HZ5.out (by decide) (by decide) (by decide) (by decide)
    have a6 := a5.put f6 aw.1 aw.2.1 aw.2.2 HF.out.1 HF.out.2
    exact (P.out.1.trans P2.out).on a6)⟩
set_option maxHeartbeats 4000000 in
set_option maxRecDepth 100000 in
theorem nload_kind {V : Pages} (hv : Shows b.x V) (hp3 : 3 ≤ b.x.pages) (hp : b.x.pages ≤ 1000000) (hd : IsHd b.x.pages (V 0)) (k : Nat) (h1 : sheetOwn b.x.pages ≤ k) (h2 : k < b.x.pages) (hm : MkB V k = true) (ho : lkOk (V k) = true) (kind : Int) (hk : ((Pg.kindOf (V k) : Nat) : Int) ≠ kind) :
    Calls Tryz.prog 91 #[.pointer (some ⟨bp, 0, none⟩), .int .i64 (k : Int), .int .u8 kind] w fun e w' => ∃ b', e = .returned (.tuple #[.agg noLink, .int .i64 4]) ∧ Hid (Rd w0 w' bp K b b') := by
  have HF := hidI (And.intro (h.fresh (Nat.le_refl _)).1 (h.fresh (Nat.le_refl _)).2.2)
  have A1 := (h.quiet ((Fr.refl [] w).alloc (.cells noLink 79))).add (heap_alloc_new w (.cells noLink 79)) (h.fresh (Nat.le_refl _)).2.1
  obtain ⟨z, hz⟩ : ∃ z, w.heap.size = z := ⟨_, rfl⟩
  obtain ⟨w1, hw1⟩ : ∃ w1, w.alloc (.cells noLink 79) = w1 := ⟨_, rfl⟩
  rw [hz, hw1] at A1
  rw [hz] at HF
  have PX := sheet_in A1 hv hp k h1 h2
  have HV := hidI hv
  have HP := hidI (And.intro hp3 (And.intro hp h2))
  have HD := hidI hd
  have HM := hidI hm
  have HO := hidI ho
  have q0 : (((Pg.kindOf (V k) : Nat) : Int) == kind) = false := by rw [beq_eq_false_iff_ne]; exact hk
  clear h A1 hv hp3 hp hd h1 h2 hm ho
  unfold noLink at hw1
  go_enter Tryz.func91, Tryz.ntmps91
  go_wp2_with (first
    | (go_at_call 165
       refine PX.mono ?_
       rintro e w2 ⟨g, b1, rfl, P⟩
       have A2 := P.out.1.ab.add P.out.2.1 P.out.2.2.1
       have TX := rd_taken A2 (P.out.1.sh V HV.out) (by rw [P.out.1.tr.pages]; exact HP.out.1) (by rw [P.out.1.tr.pages]; exact HP.out.2.1) (by rw [P.out.1.tr.pages]; exact HD.out) k (by rw [P.out.1.tr.pages]; exact HP.out.2.2)
       have hl : (V k).length = 512 := P.out.1.ab.len (P.out.1.sh V HV.out) (by rw [P.out.1.tr.pages]; exact HP.out.2.2)
       rw [HM.out] at TX
       clear A2)
    | (go_at_call 33
       refine TX.mono ?_
       rintro e w3 ⟨b2, rfl, P2⟩
       have kb := P2.out.ab.kp _ (List.mem_cons_self ..)
       have bl : Blk w3 g (V k) := kb.1
       have NX := nparse_any w3 g 512 (V k) ⟨hl, bl.bytes, Nat.le_refl _⟩
       rw [HO.out] at NX
       have hz3 : w3.heap[z]? = some (.cells noLink 79) := (P2.out.ab.kp (z, .cells noLink 79) (by simp)).1
       have HZ3 := hidI hz3
       clear kb bl hz3)
    | (go_at_call 166
       refine NX.mono ?_
       rintro e w4 ⟨vs, rfl, N⟩
       have hx : ∃ (nx rs : Int) (pb n c : Nat), vs = lkV 0 (Pg.kindOf (V k)) nx rs (some ⟨pb, 2, none⟩) n c := by
         rcases N.out.1 with ⟨_, hv⟩ | ⟨cell, pb, _, _, hv, _⟩
         · cases hv
         · exact ⟨_, _, _, _, _, hv⟩
       obtain ⟨nx, rs, pb, n, c, rfl⟩ := hx
       have hs : (lkV 0 (Pg.kindOf (V k)) nx rs (some ⟨pb, 2, none⟩) n c).size = 5 ∧ ((lkV 0 (Pg.kindOf (V k)) nx rs (some ⟨pb, 2, none⟩) n c).all fun v => v.oneCell') = true := ⟨rfl, lkV_one _ _ _ _ _ _ _⟩
       have HS := hidI hs
       have Z4 := heap_alloc_new w4 (.cells noLink 79)
       have N4 := hidI (N.out.2.alloc (.cells noLink 79))
       have hg4 := N4.out.size
       clear hs)
    | (refine wp_storeL rfl _ _ rfl w4.heap.size noLink (lkV 0 (Pg.kindOf (V k)) nx rs (some ⟨pb, 2, none⟩) n c) rfl HS.out.1 HS.out.2 rfl rfl Z4 ?_
       intro w5 b5 f5
       have hz4 : w4.heap[z]? = some (.cells noLink 79) := N.out.2.same (by simp) HZ3.out
       have hzl : z < w4.heap.size := (Array.getElem?_eq_some_iff.1 hz4).1
       have F5 : Hid (Fr [] w3 w5) := hidI (N4.out.then f5 (fun i hi hm => by
         have e := List.mem_singleton.1 hm
         have := N.out.2.size
         omega))
       have hz5 := F5.out.same (by simp) HZ3.out
       have HZ5 := hidI hz5
       have c1 : w5.cell? ⟨w4.heap.size, 1, none⟩ = some (.int .u8 (Pg.kindOf (V k))) := cell_of_row w5 w4.heap.size 1 _ _ _ b5
       clear f5 hz4 hzl hz5)
    | (refine wp_storeL rfl _ _ rfl z noLink noLink rfl rfl noLink_one rfl rfl HZ5.out ?_
       intro w6 b6 f6))
  exact bodyPost_ret (resLT rfl _ _ z _ rfl rfl b6) rfl ⟨b2, rfl, hidI (by
    have a5 := (P2.out.ab.quiet F5.out).less (K' := K) (fun p hp => by simp [hp])
    have aw := a5.bk.away HZ5.out (by decide) (by decide) (by decide) (by decide)
    have a6 := a5.put f6 aw.1 aw.2.1 aw.2.2 HF.out.1 HF.out.2
    exact (P.out.1.trans P2.out).on a6)⟩
end
end Go.Proofs.YthajipigppndgaaGreat


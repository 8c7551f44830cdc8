/-
  PageTurned: the law, for whatever comes in.
-/
import Derived.Test.YtlfpoeimgoikkaaGDif2
import Derived.Test.YtlfpoeimgoikkaaGTurM
import Derived.Test.YtlfpoeimgoikkaaGAwake
import Derived.Deep.QuietTactic
import Derived.BigQuiet
namespace Go.Proofs.Ytlfpoeimgoikkaa
open Go.RowKit Go.Maps

structure TInv (w2 wr : World) (gx gy cx cy : Nat) (la lb : List UInt8) (L : Nat) : Prop where
  x : RowB wr gx cx (mixL la lb L)
  y : RowB wr gy cy (mixL lb la L)
  fr : Fr [gx, gy] w2 wr

theorem wrap64_in {v : Int} (h0 : -9223372036854775808 ≤ v) (h1 : v ≤ 9223372036854775807) : IntKind.i64.wrap v = v := by
  unfold IntKind.wrap
  simp [IntKind.signed, IntKind.bits]
  omega
theorem cell_kept {w w' : World} (f : Fr [] w w') {b o : Nat} {v : Value} (h : w.cell? ⟨b, o, none⟩ = some v) : w'.cell? ⟨b, o, none⟩ = some v := (World.cell?_of_block (f.block b (block_lt_of_cell h) (by simp))).trans h
theorem cells_vals {w : World} {g : Nat} {cur : Array Value} {T : TypeId} {xs : List Value} {m : Nat} (hh : w.heap[g]? = some (.cells cur T)) (ht : cur.toList.take m = xs) (j : Nat) (v : Value) (hv : xs[j]? = some v) : w.cell? ⟨g, j, none⟩ = some v := by
  rw [← ht, List.getElem?_take] at hv
  have hc : cur[j]? = some v := by
    by_cases h : j < m
    · rw [if_pos h] at hv
      simpa using hv
    · rw [if_neg h] at hv
      cases hv
  exact cell_of_row w g j _ _ _ hh ▸ (by simpa using hc)
theorem span_at {w0 wr : World} {AD : Option Addr} {N CAP : Nat} {S : List SpE} (ow : wr.ownsRow w0.heap.size 52 4 (.slice AD N CAP) N (spv S)) (i : Nat) (hi : i < S.length) (hN : S.length = N) (off n bo bn : Nat) (he : S[i] = ⟨off, n, bo, bn⟩) :
    ∃ gl, AD = some ⟨gl, 0, none⟩ ∧ wr.cell? ⟨gl, i * 4, none⟩ = some (.int .i64 0) ∧ wr.cell? ⟨gl, i * 4 + 1, none⟩ = some (.int .i64 off) ∧ wr.cell? ⟨gl, i * 4 + 2, none⟩ = some (.slice (some ⟨bo, 0, none⟩) n n) ∧ wr.cell? ⟨gl, i * 4 + 3, none⟩ = some (.slice (some ⟨bn, 0, none⟩) n n) := by
  rcases ow.2 with ⟨hv, h0⟩ | ⟨g, cap, cur, hv, _, hh, hnc, _, hcs, ht⟩
  · omega
  · cases hv
    have key : ∀ k, k < 4 → ∀ v, (SpE.vals ⟨off, n, bo, bn⟩)[k]? = some v → wr.cell? ⟨g, i * 4 + k, none⟩ = some v := by
      intro k hk v hv
      refine cells_vals hh (m := N * 4) ?_ _ v (by rw [spv_at S i hi k hk, he]; exact hv)
      simpa using ht
    exact ⟨g, rfl, key 0 (by omega) _ rfl, key 1 (by omega) _ rfl, key 2 (by omega) _ rfl, key 3 (by omega) _ rfl⟩
theorem sub_at (l : List UInt8) (off n k : Nat) (hk : k < n) : byteAt ((l.drop off).take n) k = byteAt l (off + k) := by
  unfold byteAt
  rw [List.getD_eq_getElem?_getD, List.getD_eq_getElem?_getD, List.getElem?_take, if_pos hk, List.getElem?_drop]

set_option maxHeartbeats 2000000 in
set_option maxRecDepth 100000 in
theorem turned_512 (w : World) (g1 o1 c1 g2 o2 c2 : Nat) (la lb : List UInt8) (h1 : At512 w g1 o1 c1 la) (h2 : At512 w g2 o2 c2 lb) :
    Calls Try.prog 8 #[.slice (some ⟨g1, o1, none⟩) 512 c1, .slice (some ⟨g2, o2, none⟩) 512 c2] w fun r w' => r = .returned (.bool true) ∧ Fr [] w w' := by
  have H1 : Hid (At512 w g1 o1 c1 la) := h1
  have H2 : Hid (At512 w g2 o2 c2 lb) := h2
  clear h1 h2
  go_enter Try.func8, Try.ntmps8
  go_wp2_with fail
  refine (awake_any _).mono ?_
  rintro e w0 ⟨rfl, f0⟩
  go_wp2_with fail
  refine (diff_512 w0 g1 o1 c1 g2 o2 c2 la lb (H1.out.kept f0 (by simp)) (H2.out.kept f0 (by simp))).mono ?_
  rintro e w1 ⟨AD, N, CAP, S, rfl, hS, own, oks, f1⟩
  have HS : Hid (S.map (fun e => (e.off, e.off + e.n)) = diffS la lb) := hS
  have OWN : Hid (w1.ownsRow w0.heap.size 52 4 (.slice AD N CAP) N (spv S)) := own
  have OKS : Hid (∀ e ∈ S, Blk w1 e.bo ((la.drop e.off).take e.n) ∧ Blk w1 e.bn ((lb.drop e.off).take e.n)) := oks
  have F01 : Hid (Fr [] w w1) := f0.trans f1
  have HN : Hid (S.length = N) := by
    have := own.1
    rw [spv_length] at this
    show S.length = N
    omega
  have hN : N ≤ 60 := by
    have ok := dwalk_ok la lb 512
    have h1 := HN.out
    have h2 : (diffS la lb).length = N := by rw [← hS, List.length_map, h1]
    unfold diffS at h2
    generalize dwalk la lb 512 = s at ok h2
    have h3 := ok.few
    have h4 := ok.le
    unfold spansOf at h2
    by_cases ht : s.2.2 = 0
    · rw [if_pos ht, (ok.none ht).1] at h2
      simp at h2
      omega
    · rw [if_neg ht, List.length_append] at h2
      have h5 := (ok.cur ht).1
      simp at h2
      omega
  clear hS own oks f0 f1
  go_wp2_with fail
  refine (copyBytes_any _ _ 512 c1 la ⟨H1.out.len, (H1.out.kept F01.out (by simp)).bytes, H1.out.cap⟩ (by omega) (fun e => nomatch e)).mono ?_
  rintro e w2 ⟨ax, cx, rfl, sx, hx0, hx, f2⟩
  obtain ⟨gx, rfl, rx, hgx⟩ := hx (by omega)
  have RX : Hid (RowB w2 gx cx la) := rx
  have F12 : Hid (Fr [] w1 w2) := f2
  clear sx hx0 hx rx f2
  go_wp2_with fail
  refine (copyBytes_any _ _ 512 c2 lb ⟨H2.out.len, (H2.out.kept (F01.out.trans F12.out) (by simp)).bytes, H2.out.cap⟩ (by omega) (fun e => nomatch e)).mono ?_
  rintro e w3 ⟨ay, cy, rfl, sy, hy0, hy, f3⟩
  obtain ⟨gy, rfl, ry, hgy⟩ := hy (by omega)
  have hxy : Hid (gx ≠ gy) := by have := RX.out.lt; show gx ≠ gy; omega
  have hX1 : Hid (w1.heap.size ≤ gx ∧ w1.heap.size ≤ gy) := ⟨hgx, Nat.le_trans F12.out.size hgy⟩
  have F13 : Hid (Fr [] w1 w3) := F12.out.trans f3
  have TI : Hid (TInv w3 w3 gx gy cx cy la lb 0) := ⟨by rw [mixL_zero]; exact RX.out.kept f3 (by simp), by rw [mixL_zero]; exact ry, Fr.refl _ _⟩
  clear RX F12 sy hy0 hy ry f3 hgx hgy
  have F1r : Hid (∀ wr, Fr [gx, gy] w3 wr → Fr [] w1 wr) := fun wr f => F13.out.then f (fun k hk hm => by have := hX1.out; simp at hm; omega)
  go_wp2_with fail
  go_loopw [8, 9] (fun lv iv wr => ∃ (i L : Nat) (la0 : Int), i ≤ N ∧ iv = .int .i64 i ∧ lv = .int .i64 la0 ∧ L = lastE (diffS la lb) i ∧ (la0 = -8 ∧ L = 0 ∨ la0 = L ∧ 0 < L) ∧ L ≤ 512 ∧ TInv w3 wr gx gy cx cy la lb L) (fun _ iv _ => N - (intOf iv).toNat)
  case atStart => exact ⟨0, 0, -8, by omega, rfl, rfl, rfl, Or.inl ⟨rfl, rfl⟩, by omega, TI.out⟩
  case round =>
    obtain ⟨i, L, la0, hi, rfl, rfl, hL, hla, hL5, ti⟩ := hrel
    have HL : Hid (L = lastE (diffS la lb) i) := hL
    have T : Hid (TInv w3 wr gx gy cx cy la lb L) := ti
    have F1 : Hid (Fr [] w1 wr) := F1r.out _ ti.fr
    clear hL ti TI
    by_cases hlt : i < N
    · have hlt' : (i : Int) < N := by omega
      have hiS : i < S.length := by rw [HN.out]; exact hlt
      obtain ⟨⟨off, n, bo, bn⟩, he⟩ : ∃ e, S[i] = e := ⟨_, rfl⟩
      have hD : ∃ (h : i < (diffS la lb).length), (diffS la lb)[i]'h = (off, off + n) := by
        have h1 : (S.map (fun e => (e.off, e.off + e.n)))[i]? = some (off, off + n) := by
          rw [List.getElem?_map, List.getElem?_eq_getElem hiS, he]
          rfl
        rw [HS.out] at h1
        exact List.getElem?_eq_some_iff.1 h1
      obtain ⟨hD1, hD2⟩ := hD
      have tok' := diff_tok la lb i hD1
      rw [hD2, ← HL.out] at tok'
      have tok : Hid (TOk la lb L off (off + n)) := tok'
      have HNX : Hid (lastE (diffS la lb) (i + 1) = off + n) := by show _ = _; rw [lastE_succ _ _ hD1, hD2]
      have bks := OKS.out ⟨off, n, bo, bn⟩ (he ▸ List.getElem_mem hiS)
      have BO : Hid (Blk w1 bo ((la.drop off).take n)) := bks.1
      have BN : Hid (Blk w1 bn ((lb.drop off).take n)) := bks.2
      obtain ⟨gl, rfl, r0, r1, r2, r3⟩ := span_at (ownSp_kept OWN.out F1.out (by simp)) i hiS HN.out off n bo bn he
      have hn1 : off < off + n := tok.out.lt
      have ho5 : off + n ≤ 512 := tok.out.le
      have LO : Hid (((la.drop off).take n).length = n) := by show _ = _; rw [List.length_take, List.length_drop, H1.out.len]; omega
      have LN : Hid (((lb.drop off).take n).length = n) := by show _ = _; rw [List.length_take, List.length_drop, H2.out.len]; omega
      obtain ⟨m, rfl⟩ : ∃ m, n = m + 1 := ⟨n - 1, by omega⟩
      have b0 := (BO.out.kept F1.out (by simp)).cell 0 (by rw [LO.out]; omega)
      have b1 := (BO.out.kept F1.out (by simp)).cell m (by rw [LO.out]; omega)
      have b2 := (BN.out.kept F1.out (by simp)).cell 0 (by rw [LN.out]; omega)
      have b3 := (BN.out.kept F1.out (by simp)).cell m (by rw [LN.out]; omega)
      rw [sub_at _ _ _ _ (by omega)] at b0 b1
      rw [sub_at _ _ _ _ (by omega)] at b2 b3
      rw [Nat.add_zero] at b0 b2
      have n0 : (((byteAt la off).toNat : Int) == ((byteAt lb off).toNat : Int)) = false := by
        rw [beq_eq_false_iff_ne]
        intro e
        exact tok.out.ne0 (UInt8.toNat_inj.1 (by omega))
      have n1 : (((byteAt la (off + m)).toNat : Int) == ((byteAt lb (off + m)).toNat : Int)) = false := by
        rw [beq_eq_false_iff_ne]
        intro e
        exact tok.out.ne1 (UInt8.toNat_inj.1 (by rw [show off + (m + 1) - 1 = off + m by omega]; omega))
      generalize ((byteAt la off).toNat : Int) = p0 at b0 n0
      generalize ((byteAt lb off).toNat : Int) = q0 at b2 n0
      generalize ((byteAt la (off + m)).toNat : Int) = p1 at b1 n1
      generalize ((byteAt lb (off + m)).toNat : Int) = q1 at b3 n1
      have hgap : ¬ (off : Int) < la0 + 8 := by have := tok.out.gap; omega
      have hla1 : -8 ≤ la0 ∧ la0 ≤ 512 := by omega
      obtain ⟨hla2, hla3⟩ := hla1
      have t1 : ¬ ((m : Int) + 1 < 1) := by omega
      have t2 : ¬ ((off : Int) < 0) := by omega
      have t3 : ¬ (512 < (off : Int) + ((m : Int) + 1)) := by omega
      clear hD1 hD2 tok' bks he hiS
      go_wp2_with fail
      have FA := (Fr.refl [] wr).alloc (.cells #[.int .i64 0, .int .i64 (off : Int), .slice (some ⟨bo, 0, none⟩) (m + 1) (m + 1), .slice (some ⟨bn, 0, none⟩) (m + 1) (m + 1)] 52)
      have xb := heap_alloc_new wr (.cells #[.int .i64 0, .int .i64 (off : Int), .slice (some ⟨bo, 0, none⟩) (m + 1) (m + 1), .slice (some ⟨bn, 0, none⟩) (m + 1) (m + 1)] 52)
      generalize wr.alloc (.cells #[.int .i64 0, .int .i64 (off : Int), .slice (some ⟨bo, 0, none⟩) (m + 1) (m + 1), .slice (some ⟨bn, 0, none⟩) (m + 1) (m + 1)] 52) = WA at FA xb ⊢
      generalize wr.heap.size = sb at xb ⊢
      replace b0 := cell_kept FA b0
      replace b1 := cell_kept FA b1
      replace b2 := cell_kept FA b2
      replace b3 := cell_kept FA b3
      have XB : Hid (WA.heap[sb]? = some (.cells #[.int .i64 0, .int .i64 (off : Int), .slice (some ⟨bo, 0, none⟩) (m + 1) (m + 1), .slice (some ⟨bn, 0, none⟩) (m + 1) (m + 1)] 52)) := xb
      have x0 : WA.cell? ⟨sb, 0, none⟩ = some (.int .i64 0) := cell_of_row WA sb 0 _ _ _ xb
      have x1 : WA.cell? ⟨sb, 1, none⟩ = some (.int .i64 (off : Int)) := cell_of_row WA sb 1 _ _ _ xb
      have x2 : WA.cell? ⟨sb, 2, none⟩ = some (.slice (some ⟨bo, 0, none⟩) (m + 1) (m + 1)) := cell_of_row WA sb 2 _ _ _ xb
      have x3 : WA.cell? ⟨sb, 3, none⟩ = some (.slice (some ⟨bn, 0, none⟩) (m + 1) (m + 1)) := cell_of_row WA sb 3 _ _ _ xb
      have FAH : Hid (Fr [] wr WA) := FA
      clear r0 r1 r2 r3 xb FA
      obtain ⟨E2, HE2⟩ : ∃ E2 : Int, Hid (E2 = off + (m + 1)) := ⟨_, rfl⟩
      obtain ⟨E8, HE8⟩ : ∃ E8 : Int, Hid (E8 = la0 + 8) := ⟨_, rfl⟩
      have e2 : IntKind.i64.wrap ((off : Int) + ((m : Int) + 1)) = E2 := (wrap64_in (by omega) (by omega)).trans HE2.out.symm
      have e8 : IntKind.i64.wrap (la0 + 8) = E8 := (wrap64_in (by omega) (by omega)).trans HE8.out.symm
      have em : IntKind.i64.wrap (m : Int) = (m : Int) := wrap64_in (by omega) (by omega)
      have t3' : ¬ (512 : Int) < E2 := by have := HE2.out; omega
      have t4' : ¬ (off : Int) < E8 := by have := HE8.out; omega
      have t1' : ¬ ((m : Int) + 1 < 1) := by omega
      have t2' : ¬ ((off : Int) < 0) := by omega
      have t5' : (m : Int) < (m : Int) + 1 := by omega
      go_quiet (fail)
      go_wp2_with fail
      have FD : Hid (Fr [] wr (WA.drewN nq)) := FAH.out.trans ((Fr.refl [] WA).drewN nq)
      have XD : Hid ((WA.drewN nq).heap[sb]? = some (.cells #[.int .i64 0, .int .i64 (off : Int), .slice (some ⟨bo, 0, none⟩) (m + 1) (m + 1), .slice (some ⟨bn, 0, none⟩) (m + 1) (m + 1)] 52)) := ((Fr.refl [] WA).drewN nq).same (by simp) XB.out
      clear x0 x1 x2 x3 b0 b1 b2 b3 n0 n1 XB FAH
      generalize WA.drewN nq = WD at FD XD ⊢
      have x1 : WD.cell? ⟨sb, 1, none⟩ = some (.int .i64 (off : Int)) := cell_of_row WD sb 1 _ _ _ XD.out
      have x3 : WD.cell? ⟨sb, 3, none⟩ = some (.slice (some ⟨bn, 0, none⟩) (m + 1) (m + 1)) := cell_of_row WD sb 3 _ _ _ XD.out
      have hLo : L ≤ off := by have := tok.out.gap; omega
      have LX : Hid ((mixL la lb L).length = 512) := mixL_length _ _ _ H1.out.len H2.out.len hL5
      have LY : Hid ((mixL lb la L).length = 512) := mixL_length _ _ _ H2.out.len H1.out.len hL5
      have hcx : 512 ≤ cx := by have := T.out.x.cap; rw [LX.out] at this; exact this
      have hcy : 512 ≤ cy := by have := T.out.y.cap; rw [LY.out] at this; exact this
      have kx : ¬ cx = off := by omega
      have ky : ¬ cy = off := by omega
      have ko : (off : Int) ≤ 512 := by omega
      have RX : Hid (RowB WD.drew gx cx (mixL la lb L)) := (T.out.x.kept FD.out (by simp)).kept (Fr.refl [] WD).drew (by simp)
      have RY : Hid (RowB WD.drew gy cy (mixL lb la L)) := (T.out.y.kept FD.out (by simp)).kept (Fr.refl [] WD).drew (by simp)
      have SN : Hid (BytesAt WD.drew (some ⟨bn, 0, none⟩) ((lb.drop off).take (m + 1))) := ((BN.out.kept (F1.out.trans FD.out) (by simp)).kept (Fr.refl [] WD).drew (by simp)).bytes
      have SO : Hid (Blk WD.drew bo ((la.drop off).take (m + 1))) := (BO.out.kept (F1.out.trans FD.out) (by simp)).kept (Fr.refl [] WD).drew (by simp)
      have MN : Hid (((lb.drop off).take (m + 1)).length = Nat.min (m + 1) (512 - off)) := LN.out.trans (show m + 1 = min (m + 1) (512 - off) by omega)
      have MO : Hid (((la.drop off).take (m + 1)).length = Nat.min (m + 1) (512 - off)) := LO.out.trans (show m + 1 = min (m + 1) (512 - off) by omega)
      have FX : Hid (off + ((lb.drop off).take (m + 1)).length ≤ (mixL la lb L).length) := by show _ ≤ _; rw [LN.out, LX.out]; exact ho5
      have FY : Hid (off + ((la.drop off).take (m + 1)).length ≤ (mixL lb la L).length) := by show _ ≤ _; rw [LO.out, LY.out]; exact ho5
      have FWD : Hid (Fr [] wr WD.drew) := FD.out.trans (Fr.refl [] WD).drew
      have XDD : Hid (WD.drew.heap[sb]? = some (.cells #[.int .i64 0, .int .i64 (off : Int), .slice (some ⟨bo, 0, none⟩) (m + 1) (m + 1), .slice (some ⟨bn, 0, none⟩) (m + 1) (m + 1)] 52)) := (Fr.refl [] WD).drew.same (by simp) XD.out
      have NBX : Hid (bo ≠ gx) := by have := BO.out.lt; have := hX1.out; show bo ≠ gx; omega
      clear t1 t2 t3 t1' t2' t3' t4' t5' hgap
      go_region_law (refine step_copyB rfl (.tmp 115) (.tmp 117) rfl gx off (some ⟨gx, off, none⟩) (512 - off) (cx - off) (some ⟨bn, 0, none⟩) (m + 1) (m + 1) cx (mixL la lb L) ((lb.drop off).take (m + 1)) (by simp [Act.eval, Act.put]) (by simp [Act.eval, Act.put]) RX.out MN.out (fun _ => rfl) SN.out FX.out ?_; intro w5 r5 f5)
      all_goals
        have nsx : gx ≠ sb := rowb_ne RX.out XDD.out (by decide)
        have nsy : gy ≠ sb := rowb_ne RY.out XDD.out (by decide)
        have X5 : Hid (w5.heap[sb]? = some (.cells #[.int .i64 0, .int .i64 (off : Int), .slice (some ⟨bo, 0, none⟩) (m + 1) (m + 1), .slice (some ⟨bn, 0, none⟩) (m + 1) (m + 1)] 52)) := f5.same (by simp; exact fun e => nsx e.symm) XDD.out
        have NSY : Hid (gy ≠ sb) := nsy
        have R5 : Hid (RowB w5 gx cx (mixL la lb (off + (m + 1)))) := by
          have := mixL_step la lb L off (off + (m + 1)) H1.out.len H2.out.len hLo tok.out
          rw [Nat.add_sub_cancel_left] at this
          show RowB w5 gx cx _
          rw [← this]
          exact r5
        have RY5 : Hid (RowB w5.drew gy cy (mixL lb la L)) := (RY.out.kept f5 (by simp; exact fun e => hxy.out e.symm)).kept (Fr.refl [] w5).drew (by simp)
        have SO5 : Hid (BytesAt w5.drew (some ⟨bo, 0, none⟩) ((la.drop off).take (m + 1))) := ((SO.out.kept f5 (by simp; exact NBX.out)).kept (Fr.refl [] w5).drew (by simp)).bytes
        have F5 : Hid (Fr [gx, gy] w3 w5) := (T.out.fr.trans (FWD.out.mono (fun _ _ h => nomatch h))).trans (f5.mono (fun k _ h => by simp at h; simp [h]))
        have y1 : w5.cell? ⟨sb, 1, none⟩ = some (.int .i64 (off : Int)) := cell_of_row w5 sb 1 _ _ _ X5.out
        have y2 : w5.cell? ⟨sb, 2, none⟩ = some (.slice (some ⟨bo, 0, none⟩) (m + 1) (m + 1)) := cell_of_row w5 sb 2 _ _ _ X5.out
        clear x1 x3 nsx nsy r5 f5
        go_wp2_with fail
        go_region_law (refine step_copyB rfl (.tmp 122) (.tmp 124) rfl gy off (some ⟨gy, off, none⟩) (512 - off) (cy - off) (some ⟨bo, 0, none⟩) (m + 1) (m + 1) cy (mixL lb la L) ((la.drop off).take (m + 1)) (by simp [Act.eval, Act.put]) (by simp [Act.eval, Act.put]) RY5.out MO.out (fun _ => rfl) SO5.out FY.out ?_; intro w7 r7 f7)
        all_goals
          have X7 : Hid (w7.heap[sb]? = some (.cells #[.int .i64 0, .int .i64 (off : Int), .slice (some ⟨bo, 0, none⟩) (m + 1) (m + 1), .slice (some ⟨bn, 0, none⟩) (m + 1) (m + 1)] 52)) := f7.same (by simp; exact fun e => NSY.out e.symm) ((Fr.refl [] w5).drew.same (by simp) X5.out)
          have R7 : Hid (RowB w7 gy cy (mixL lb la (off + (m + 1)))) := by
            have := mixL_step lb la L off (off + (m + 1)) H2.out.len H1.out.len hLo tok.out.symm
            rw [Nat.add_sub_cancel_left] at this
            show RowB w7 gy cy _
            rw [← this]
            exact r7
          have RX7 : Hid (RowB w7 gx cx (mixL la lb (off + (m + 1)))) := (R5.out.kept (Fr.refl [] w5).drew (by simp)).kept f7 (by simp; exact hxy.out)
          have F7 : Hid (Fr [gx, gy] w3 w7) := (F5.out.trans (Fr.refl _ w5).drew).trans (f7.mono (fun k _ h => by simp at h; simp [h]))
          have z1 : w7.cell? ⟨sb, 1, none⟩ = some (.int .i64 (off : Int)) := cell_of_row w7 sb 1 _ _ _ X7.out
          clear y1 y2 r7 f7
          go_wp2_with fail
          exact ⟨⟨i + 1, off + (m + 1), _, by omega, by go_num, rfl, HNX.out.symm, Or.inr ⟨by have := HE2.out; omega, by omega⟩, ho5, ⟨RX7.out, R7.out, F7.out⟩⟩, by simp [intOf]; omega⟩
    · have hge : ¬ (i : Int) < N := by omega
      have hiN : i = N := by omega
      have hsame : ∀ j, L ≤ j → j < 512 → byteAt la j = byteAt lb j := by
        intro j h1 h2
        have hlen : (diffS la lb).length = N := by rw [← HS.out, List.length_map, HN.out]
        exact diff_same la lb i (by omega) j h2 (by rw [← HL.out]; exact h1) (fun h => absurd h (by omega))
      have RX : Hid (RowB wr gx cx lb) := by
        have := T.out.x
        rw [mixL_all la lb L H1.out.len H2.out.len hL5 hsame] at this
        exact this
      have RY : Hid (RowB wr gy cy la) := by
        have := T.out.y
        rw [mixL_all lb la L H2.out.len H1.out.len hL5 (fun j h1 h2 => (hsame j h1 h2).symm)] at this
        exact this
      clear hsame hiN hla hlt
      go_wp2_with fail
      refine (same_any _ _ _ lb lb 512 _ _ RX.out.bytes (H2.out.kept (F01.out.trans F1.out) (by simp)).bytes H2.out.len H2.out.len (by omega)).mono ?_
      rintro e w5 ⟨rfl, f5⟩
      have hbb : (lb == lb) = true := by simp
      go_wp2_with fail
      refine (same_any _ _ _ la la 512 _ _ (RY.out.kept f5 (by simp)).bytes (H1.out.kept ((F01.out.trans F1.out).trans f5) (by simp)).bytes H1.out.len H1.out.len (by omega)).mono ?_
      rintro e w6 ⟨rfl, f6⟩
      go_wp2_with fail
      go_ret
      first
        | exact ⟨rfl, ((F01.out.trans F1.out).trans f5).trans f6⟩
        | exact ⟨by simp, ((F01.out.trans F1.out).trans f5).trans f6⟩
end Go.Proofs.Ytlfpoeimgoikkaa

/-
  The label's reading: bytes of at most 1024 bits.
-/
import Derived.Test.YtddcilmeignlmaaGreatDoorReadA
import Derived.Deep.Cut
namespace Go.Proofs.YtddcilmeignlmaaGreatDoor
open Go.RowKit Go.Maps

theorem last_of {r : List Bool} {n : Nat} (h : atI r ((n : Int) - 1) = 1) (hn : r.length = n) : r.getLast? = some true := by
  unfold atI at h
  split at h
  · rename_i hc
    have h2 : n - 1 < r.length := by omega
    have h3 : ((n : Int) - 1).toNat = n - 1 := by omega
    rw [h3, List.getD_eq_getElem?_getD, List.getElem?_eq_getElem h2] at h
    rw [List.getLast?_eq_getElem?, hn, List.getElem?_eq_getElem h2]
    cases hb : r[n - 1]
    · rw [hb] at h; simp [bitN] at h
    · rfl
  · omega
theorem of_last {r : List Bool} {n : Nat} (h : r.getLast? = some true) (hn : r.length = n) : atI r ((n : Int) - 1) = 1 := by
  have h2 : n - 1 < r.length := by
    cases r with
    | nil => simp at h
    | cons a t => simp at hn ⊢; omega
  rw [List.getLast?_eq_getElem?, hn] at h
  unfold atI
  rw [if_pos ⟨by omega, by omega⟩]
  have h3 : ((n : Int) - 1).toNat = n - 1 := by omega
  rw [h3, List.getD_eq_getElem?_getD, h]
  rfl

set_option maxHeartbeats 4000000 in
set_option maxRecDepth 100000 in
theorem read_short (w : World) (ad : Option Addr) (m c : Nat) (l : List UInt8) (hl : l.length = m) (hb : BytesAt w ad l) (hp : Plain ad) (hm : m ≤ 128) :
    Calls Tryz.prog 29 #[.slice ad m c] w fun e w' => ReadTo l e ∧ Fr [] w w' := by
  have hm' : (m : Int) ≤ 128 := by omega
  have hm0 : (0 : Int) ≤ (m : Int) := by omega
  have HL : Hid (l.length = m) := hl
  have p0 := PBox.zero w
  have f0 := (Fr.refl [] w).alloc (.cells #[.string { data := #[] }, .int .i64 0, .string { data := #[] }, .int .i64 0, .string { data := #[] }, .int .i64 0, .int .i64 0] 45)
  clear hl
  go_enter Tryz.func29, Tryz.ntmps29
  go_wp2_with fail
  go_step3
  go_wp2_with fail
  refine (unpack_any _ ad m c (8 * (m : Int)) l HL.out (hb.kept f0 (by simp)) hp).mono ?_
  rintro e w1 ⟨hd, f1⟩
  have hun : UnOk l ((8 * m : Nat) : Int) := unOk_full (by omega) (by rw [HL.out]; omega) (by omega)
  have e8 : (8 * (m : Int)) = ((8 * m : Nat) : Int) := by omega
  rcases hd with ⟨rfl, hok⟩ | ⟨rfl, hno⟩
  · have hrep := hun.rep
    rw [show (8 * (m : Int)).toNat = 8 * m by omega]
    have p1 := p0.kept f1 (by simp)
    have g1 := f0.trans f1
    obtain ⟨B, hB⟩ : ∃ B, B = w.heap.size := ⟨_, rfl⟩
    rw [← hB] at p1 ⊢
    have hBw0 : w.heap.size ≤ B := by omega
    clear hB p0 f0 f1 hok hun e8
    generalize hr : bitsTo l (8 * m) = r at hrep
    have HRR : Hid (bitsTo l (8 * m) = r) := hr
    clear hr
    obtain ⟨n, hn⟩ : ∃ n, 8 * m = n := ⟨_, rfl⟩
    have HN : Hid (8 * m = n) := hn
    rw [hn] at hrep ⊢
    have hn2 : (n : Int) ≤ 1024 := by omega
    clear hn
    have bA := Box.new w1 (mkS l) n
    have fA : Fr [] w1 (w1.alloc (.cells #[.string (mkS l), .int .i64 (n : Int)] 43)) := (Fr.refl _ _).alloc _
    have p2 := p1.kept fA (by simp)
    have g2 := g1.trans fA
    have hne : ¬ B = w1.heap.size := by have := p1.lt; omega
    clear p1 g1
    go_wp2_with fail
    generalize w1.alloc (.cells #[.string (mkS l), .int .i64 (n : Int)] 43) = w2 at bA p2 g2 fA ⊢
    generalize w1.heap.size = BA at bA hne ⊢
    obtain ⟨x, hx⟩ : ∃ x, atI r ((n : Int) - 1) = x := ⟨_, rfl⟩
    have HX : Hid (atI r ((n : Int) - 1) = x) := hx
    clear hx fA
    have hwr : IntKind.i64.wrap ((n : Int) - 1) = (n : Int) - 1 := wrapI (by omega) (by omega)
    have gg : Fr [] w2 w2.drew := (Fr.refl _ _).drew
    have k0 : (w2.cell? ⟨BA, 0, none⟩ = some (.string (mkS l)) ∧ w2.cell? ⟨BA, 1, none⟩ = some (.int .i64 (n : Int))) := ⟨bA.c0, bA.c1⟩
    go_region_held3 (fun w' => w'.cell? ⟨BA, 0, none⟩ = some (.string (mkS l)) ∧ w'.cell? ⟨BA, 1, none⟩ = some (.int .i64 (n : Int))) (first | exact kk | exact k0)
      ((first
        | (go_at_call 34; refine (len_any _ (mkS l) n).mono ?_; rintro e w5 ⟨rfl, f5⟩; replace gg := gg.trans f5; have kk : _ ∧ _ := ⟨(bA.kept gg (by simp)).c0, (bA.kept gg (by simp)).c1⟩)
        | (go_at_call 54; refine (at_any _ (mkS l) n r hrep ((n : Int) - 1)).mono ?_; rw [HX.out]; rintro e w6 ⟨rfl, f6⟩; replace gg := gg.trans f6; have kk : _ ∧ _ := ⟨(bA.kept gg (by simp)).c0, (bA.kept gg (by simp)).c1⟩)))
    by_cases hx1 : x = 1
    · subst hx1
      have p6 := p2.kept gg (by simp)
      go_wp2_with (refine wp_storeP rfl _ _ rfl B _ _ _ _ _ _ _ (mkS []) 0 (mkS []) 0 (mkS []) 0 0 rfl rfl p6 ?_; intro w7 p7 f7)
      rw [Exit.noGoto_ret]
      refine bodyPost_ret (resP2 rfl _ _ B _ _ _ _ _ _ _ rfl p7) rfl ⟨Or.inr ⟨rfl, fun ss Ls => ?_⟩, (g2.trans gg).then f7 (fun i hi hm => by simp at hm; omega)⟩
      have h1 := lab_last Ls
      rw [HL.out, HRR.out] at h1
      have h2 := HX.out
      exact h1 (last_of h2 (by rw [hrep.len]))
    · have hx2 : (x == 1) = false := by simpa using hx1
      have hlast : r.getLast? ≠ some true := fun h => hx1 (by rw [← HX.out]; exact of_last h (by rw [hrep.len]))
      have hrl : r.length = n := hrep.len
      have hmm := @run_makeMap Tryz.prog
      have p6 := p2.kept gg (by simp)
      have b6 := bA.kept gg (by simp)
      have g6 := g2.trans gg
      clear p2 bA g2 gg k0 kk hx2 hwr hne
      go_wp2_with fail
      go_cut [6] from 16 (fun s6 wx => ∃ b M, s6 = .pointer (some ⟨b, 0, none⟩) ∧ Said wx b M ∧ Fr [] w6 wx)
      case first =>
        obtain ⟨a1, a2, a3, a4⟩ := ups1 w6 w6.heap.size rfl
        obtain ⟨b1, b2, b3, b4⟩ := ups1 (w6.alloc (.cells #[.map none] 97)) (w6.heap.size + 1) (by simp)
        obtain ⟨c1, c2, c3, c4⟩ := ups3 w6 (.cells #[.map none] 97)
        go_region
        all_goals
          go_wp2_with fail
          go_meet
          case rel => first
            | exact ⟨_, _, rfl, said1 w6 _ (Or.inl rfl)⟩
            | exact ⟨_, _, rfl, said1 w6 _ (Or.inr rfl)⟩
            | exact ⟨_, _, rfl, said2 w6 _ (Or.inl rfl)⟩
            | exact ⟨_, _, rfl, said2 w6 _ (Or.inr rfl)⟩
      case rest =>
        obtain ⟨Bs, M, rfl, sd, fc⟩ := hcut
        have hT := heap_alloc_new wc (.cells #[.int .i64 0] 3)
        have fT : Fr [] wc (wc.alloc (.cells #[.int .i64 0] 3)) := (Fr.refl _ _).alloc _
        have f7 := fc.trans fT
        have hw0 := (g6.trans fc).size
        have LW : Low (wc.heap.size + 1) w B BA Bs M wc.heap.size := by
          have h1 := (p6.kept fc (by simp)).lt
          have h2 := (b6.kept fc (by simp)).lt
          have h3 := sd.lt
          exact ⟨by omega, by omega, by omega, by omega, by omega, by omega, by omega, by omega, by omega, by omega, by omega, by omega⟩
        have R0 : Rd (wc.heap.size + 1) w (wc.alloc (.cells #[.int .i64 0] 3)) B BA Bs M wc.heap.size l n r (.slice none 0 0) (.slice none 0 0) [] [] 0 :=
          ⟨g6.trans f7, sd.kept fT (by simp) (by simp), b6.kept f7 (by simp), hT, p6.kept f7 (by simp), World.ownsRow_nil _ _ _ _, World.ownsRow_nil _ _ _ _, fun g hg => by simp [Value.ownBlock] at hg, fun g hg => by simp [Value.ownBlock] at hg, fun g hg => by simp [Value.ownBlock] at hg, by simp, rfl, Nat.zero_le _, rfl, by simp⟩
        have hmf : ∀ (fn : Fn) (first cap : Array Value) (w : World), (Instr.makeFunc fn first cap).run Tryz.prog w = .ok (.func fn first cap) w := fun _ _ _ _ => rfl
        clear p6 b6 g6 sd fc hT fT f7 hmm hx1 hw0
        go_wp2_with fail
        generalize wc.alloc (.cells #[.int .i64 0] 3) = wd at R0 ⊢
        generalize wc.heap.size + 1 = W0 at R0 LW
        generalize wc.heap.size = Bt at R0 LW ⊢
        go_step3
        go_wp2_with fail
        go_loopw [9, 10, 11, 12, 13] (fun v9 v10 v11 v12 v13 wr => ∃ (a9 : Option Addr) (c9 : Nat) (a10 : Option Addr) (c10 : Nat) (st : List Bool) (acc : List (List Bool)) (p : Nat), v9 = .slice a9 st.length c9 ∧ v10 = .slice a10 (lastS acc).length c10 ∧ v11 = .int .i64 (acc.length : Nat) ∧ v12 = .int .i64 ((enc acc.dropLast).length : Nat) ∧ v13 = .int .i64 ((enc acc).length : Nat) ∧ Rd W0 w wr B BA Bs M Bt l n r (.slice a9 st.length c9) (.slice a10 (lastS acc).length c10) st acc p) (fun v9 _ _ _ v13 _ => n + 1 - ((intOf v13).toNat + 2 * sliceLen v9))
        case atStart => exact ⟨none, 0, none, 0, [], [], 0, rfl, rfl, rfl, rfl, rfl, R0⟩
        case round =>
          obtain ⟨a9, c9, a10, c10, st, acc, p, rfl, rfl, rfl, rfl, rfl, R⟩ := hrel
          clear R0
          have hpat := R.at hrl
          have hple := R.le
          have hnx := next_any wr Bs M BA Bt (mkS l) n r p hrep R.sd R.box R.num (by omega)
          by_cases hA : ∃ b t, r.drop p = true :: b :: t
          · obtain ⟨b, t, hd⟩ := hA
            obtain ⟨e1, e2, e3, e4, e5⟩ := drop_two hd
            rw [e1, e2, saidV_bit, saidOk_bit] at hnx
            have hsl : (st.length : Int) ≤ 1024 := by omega
            have hsl0 : (0 : Int) ≤ (st.length : Int) := by omega
            go_wp2_with fail
            refine hnx.mono ?_
            rintro e w5 ⟨rfl, n5, f5⟩
            replace n5 : Num w5 Bt ((p : Int) + 2) := by simpa using n5
            have hst5 := (R.next LW f5).2.2.2.2.1
            have fA : Fr [] w5 (w5.alloc (.cells #[.int .u8 ((chr b).toNat : Int)] 5)) := (Fr.refl _ _).alloc _
            have oA := own_kept hst5 fA (by simp)
            have cA : (w5.alloc (.cells #[.int .u8 ((chr b).toNat : Int)] 5)).cell? ⟨w5.heap.size, 0, none⟩ = some (.int .u8 ((chr b).toNat : Int)) := by rw [cell_of_row _ _ _ _ _ _ (heap_alloc_new w5 _)]; rfl
            clear hnx
            go_wp2_with (refine wp_app rfl _ _ rfl (.slice a9 st.length c9) st.length (tv st) rfl oA w5.heap.size 1 1 [.int .u8 ((chr b).toNat : Int)] rfl rfl (by intro j q hq; cases j with | zero => (simp at hq; subst hq; exact cA) | succ j => simp at hq) (by intro q hq; simp at hq; subst hq; rfl) (by omega) (by omega) ?_; intro g cap w7 o7 f7 at7 lt7 keep7)
            have R7 := R.push LW hrl hd f5 n5 f7 o7 at7 keep7
            exact ⟨⟨_, _, _, _, st ++ [b], acc, p + 2, by simp, rfl, rfl, rfl, rfl, R7⟩, by simp [intOf, sliceLen]; omega⟩
          · have hB : (r.drop p).head? ≠ some true := by
              intro h
              cases hd : r.drop p with
              | nil => rw [hd] at h; simp at h
              | cons x t =>
                rw [hd] at h
                simp at h
                subst h
                cases t with
                | nil =>
                  refine hlast ?_
                  have : r.getLast? = (r.take p ++ r.drop p).getLast? := by rw [List.take_append_drop]
                  rw [this, hd]
                  simp
                | cons y t => exact hA ⟨y, t, hd⟩
            have hx0 := drop_end hB
            rw [saidOk_no hx0, saidV_no hx0] at hnx
            by_cases hs0 : st = []
            · subst hs0
              have hgo := R.read
              rw [go_end _ _ hB] at hgo
              have hpe : p = (enc acc).length := by simpa using hpat
              have htk : bitsTo l (enc acc).length = enc acc := by
                have h1 := R.pre
                rw [← HRR.out, hpe, bitsTo_take _ _ _ (by have := HN.out; omega)] at h1
                simpa [dbl] using h1
              go_wp2_with fail
              refine hnx.mono ?_
              rintro e w5 ⟨rfl, n5, f5⟩
              obtain ⟨g5, _, _, pb5, _, la5, _⟩ := R.next LW f5
              obtain ⟨hba, hne⟩ := own_bytesAt (l := txt (lastS acc)) (by rw [txt_length]) la5
              clear hnx hA hB hx0 n5 f5 la5
              go_wp2_with (refine wp_conv rfl _ rfl (txt (lastS acc)) a10 (lastS acc).length c10 rfl (by rw [txt_length]) hba hne ?_)
              have hsz : (mkS (txt (lastS acc))).size = (lastS acc).length := txt_length _
              have hls : (mkS (txt (lastS acc))).size ≤ 1048576 := by have := lastS_le acc; omega
              refine (cutParts_any _ ad m c l HL.out (hb.kept g5 (by simp)) hp (acc.length : Nat) (enc acc.dropLast).length (enc acc).length (mkS (txt (lastS acc))) (enc_init_le acc) (txt_all _) hls).mono ?_
              rintro e w6 ⟨hd6, f6⟩
              have pb6 := pb5.kept f6 (by simp)
              have g6 := g5.trans f6
              rw [hsz, bl_mkS, said_txt, htk, enc_init] at hd6
              clear hsz hls
              rcases hd6 with ⟨u2, u3, rfl, hu2, hu3, hok⟩ | ⟨rfl, hno⟩
              · go_wp2_with (refine wp_storeP rfl _ _ rfl B _ _ _ _ _ _ _ (mkS l) (enc acc).length u2 (enc acc.dropLast).length u3 (lastS acc).length (acc.length : Nat) rfl rfl pb6 ?_; intro w7 p7 f7)
                rw [Exit.noGoto_ret]
                exact bodyPost_ret (resP2 rfl _ _ B _ _ _ _ _ _ _ rfl p7) rfl ⟨Or.inl ⟨acc, u2, u3, lab_of (by rw [HL.out]; exact hm) hok htk R.ok (by rw [HL.out]; have := HN.out; omega), rfl, hu2, hu3⟩, g6.then f7 (fun i hi hm => by simp at hm; have := LW.t3; omega)⟩
              · go_wp2_with (refine wp_storeP rfl _ _ rfl B _ _ _ _ _ _ _ (mkS []) 0 (mkS []) 0 (mkS []) 0 0 rfl rfl pb6 ?_; intro w7 p7 f7)
                rw [Exit.noGoto_ret]
                exact bodyPost_ret (resP2 rfl _ _ B _ _ _ _ _ _ _ rfl p7) rfl ⟨Or.inr ⟨rfl, no_lab2 (by rw [HL.out]; exact HRR.out) hgo hno⟩, g6.then f7 (fun i hi hm => by simp at hm; have := LW.t3; omega)⟩
            · obtain ⟨b0, hb0⟩ : ∃ b0, st.getLast? = some b0 := ⟨_, List.getLast?_eq_some_getLast hs0⟩
              obtain ⟨K, hK⟩ : ∃ K, st.length = K + 1 := ⟨st.length - 1, by have := List.length_pos_iff.2 hs0; omega⟩
              have hKl : (K : Int) ≤ 1024 := by omega
              have hK0 : (0 : Int) ≤ (K : Int) := by omega
              have htl := tv_last st b0 hb0
              rw [hK, Nat.add_sub_cancel] at htl
              go_wp2_with fail
              refine hnx.mono ?_
              rintro e w5 ⟨rfl, n5, f5⟩
              replace n5 : Num w5 Bt ((p : Int) + 1) := by simpa using n5
              obtain ⟨g5, _, _, pb5, st5, _, _⟩ := R.next LW f5
              have hc5 := n5.cell
              obtain ⟨ga, ea, ⟨va, hva, hca⟩, _⟩ := own_cell st5 K (by omega)
              rw [htl] at hva
              cases hva
              clear htl st5 hnx hA
              cases b0
              · have hgo := R.read
                rw [go_no hB hs0 hb0] at hgo
                rw [hK, ea]
                replace hca : w5.cell? ⟨ga, K, none⟩ = some (.int .u8 48) := hca
                have hnl := no_lab (l := l) (by rw [HL.out]; exact HRR.out) hgo
                have HNL : Hid (∀ ss, ¬ Lab l ss) := hnl
                clear hnl hgo hB hx0 hs0 hb0
                go_wp2_with (refine wp_storeP rfl _ _ rfl B _ _ _ _ _ _ _ (mkS []) 0 (mkS []) 0 (mkS []) 0 0 rfl rfl pb5 ?_; intro w7 p7 f7)
                rw [Exit.noGoto_ret]
                exact bodyPost_ret (resP2 rfl _ _ B _ _ _ _ _ _ _ rfl p7) rfl ⟨Or.inr ⟨rfl, HNL.out⟩, g5.then f7 (fun i hi hm => by simp at hm; have := LW.t3; omega)⟩
              · obtain ⟨t, hd⟩ : ∃ t, r.drop p = false :: t := by
                  cases hd : r.drop p with
                  | nil =>
                    exfalso
                    have h1 := dbl_last (enc acc) st true hb0
                    rw [← R.pre] at h1
                    have h2 : r = r.take p ++ r.drop p := (List.take_append_drop p r).symm
                    rw [hd, List.append_nil] at h2
                    rw [← h2] at h1
                    exact hlast h1
                  | cons x t =>
                    cases x
                    · exact ⟨t, rfl⟩
                    · rw [hd] at hB; simp at hB
                have R7 := R.ends LW hrl hd hb0 f5 n5
                replace hca : w5.cell? ⟨ga, K, none⟩ = some (.int .u8 49) := hca
                have hal : (acc.length : Int) ≤ 1024 := by have := enc_many acc; omega
                have hal0 : (0 : Int) ≤ (acc.length : Int) := by omega
                rw [hK, ea] at R7 ⊢
                clear hB hx0 hd
                go_wp2_with fail
                have hle7 := R7.le
                go_quiet (fail)
                go_wp2_with fail
                have hen : (enc (acc ++ [st])).length = (enc acc).length + 2 * (K + 1) + 1 := by rw [enc_append, enc_one, List.length_append, wr_length, hK]; omega
                refine ⟨⟨none, 0, some ⟨ga, 0, none⟩, c9, [], acc ++ [st], p + 1, rfl, by rw [lastS_snoc, hK], by simp, by rw [List.dropLast_concat], ?_, ?_⟩, ?_⟩
                · rw [hen]
                  simp
                · rw [lastS_snoc, hK]
                  exact R7.keep ((Fr.refl _ _).drewN _)
                · simp [intOf, sliceLen, hK]
                  omega
  · rw [e8] at hno
    exact absurd hun hno

/-- Any bytes are read. -/
theorem read_any (w : World) (ad : Option Addr) (m c : Nat) (l : List UInt8) (hl : l.length = m) (hb : BytesAt w ad l) (hp : Plain ad) (hm2 : m < 9223372036854775808) :
    Calls Tryz.prog 29 #[.slice ad m c] w fun e w' => ReadTo l e ∧ Fr [] w w' := by
  by_cases hm : m ≤ 128
  · exact read_short w ad m c l hl hb hp hm
  · refine (read_long w ad m c (by omega) hm2).mono ?_
    rintro e w' ⟨rfl, f⟩
    exact ⟨Or.inr ⟨rfl, fun ss L => by have := lab_len L; omega⟩, f⟩

end Go.Proofs.YtddcilmeignlmaaGreatDoor

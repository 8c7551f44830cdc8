/-
  What Put has laid is the chain of its value.
-/
import Derived.Test.YthajipigppndgaaGreatZAM
namespace Go.Proofs.YthajipigppndgaaGreat
open Go.RowKit Go.Maps
open Pg (SpE diffS)
theorem cost_any {a b : List UInt8} {S : List SpE} (hS : S.map (fun e => (e.off, e.off + e.n)) = diffS a b) : sumN S ≤ 5720 := by
  have h := sum9 (i := 0) (j := 512) (fun k hk hk2 => absurd hk2 (by omega)) hS
  omega
theorem LkRow.of {w w' : World} {g N : Nat} {G : Nat → Nat → Value} {o : Obj} (h : LkRow w g N G) (ho : w.heap[g]? = some o) (h' : w'.heap[g]? = some o) : LkRow w' g N G := by
  obtain ⟨cur, h1, h2, h3⟩ := h
  rw [ho] at h1
  cases h1
  exact ⟨cur, h', h2, h3⟩
theorem BytesAt.block {w w' : World} {b off : Nat} {l : List UInt8} {o : Obj} (h : BytesAt w (some ⟨b, off, none⟩) l) (h1 : w'.heap[b]? = some o) (h2 : w.heap[b]? = some o) : BytesAt w' (some ⟨b, off, none⟩) l := fun j v hv => by
  obtain ⟨b', o', he, hc⟩ := h j v hv
  cases he
  refine ⟨b, off, rfl, ?_⟩
  unfold World.cell? at hc ⊢
  rw [h1]
  rw [h2] at hc
  exact hc
theorem Did.on {w0 w' : World} {bp : Nat} {K K1 : KL} {nb : Nat} {m : Mst} {U : Pages} {b : Bk} {H : List Ch} {V' : Pages} {c : Int} {b' : Bk} {H' : List Ch} (h : Did w0 w' bp K nb m U b H V' c b' H') (hk : ∀ p ∈ K1, p ∈ K) : Did w0 w' bp K1 nb m U b H V' c b' H' := ⟨h.i.on (h.i.ab.less hk), h.tr, h.ph⟩
def pieceOf (data : List UInt8) (j : Nat) : List UInt8 := (data.drop (502 * j)).take (szOf data.length j)
def lkPg (ps : List Nat) (data : List UInt8) (j : Nat) : List UInt8 := Pg.pgB (if j = 0 then 64 else 65) (if j + 1 < ps.length then ps.getD (j + 1) 0 else 0) [lkCell (data.length - 502 * j - szOf data.length j) (pieceOf data j)]
def putV (V : Pages) (ps : List Nat) (data : List UInt8) : Nat → Pages
  | 0 => V
  | j + 1 => setPg (putV V ps data j) (ps.getD j 0) (lkPg ps data j)
theorem pieceOf_len {data : List UInt8} {j N : Nat} (hN : N = (data.length + 501) / 502) (hj : j < N) : (pieceOf data j).length = szOf data.length j ∧ 0 < szOf data.length j ∧ szOf data.length j ≤ 502 := by
  unfold pieceOf szOf
  rw [List.length_take, List.length_drop]
  omega
theorem lkPg_len {ps : List Nat} {data : List UInt8} {j N : Nat} (hN : N = (data.length + 501) / 502) (hj : j < N) : (lkPg ps data j).length = 512 := by
  have h := pieceOf_len hN hj
  refine Pg.pgB_length _ _ _ ?_
  rw [Pg.elen_one, lkCell_length]
  omega
def PutR (w0 w' : World) (bp : Nat) (K : KL) (nb : Nat) (m : Mst) (U : Pages) (b : Bk) (H : List Ch) (V : Pages) (data : List UInt8) (N c : Nat) (f r : Int) : Prop :=
  (r = 5 ∧ f = 0 ∧ ((∃ ps V1, ps.length < N ∧ Tkn b.x.pages V ps V1 ∧ NoneF V1 b.x.pages) ∨ capN b < phN b H + 35 + ((N * (c + 97) + c + N * 5720 : Nat) : Int)) ∧ ∃ b' H' V', Did w0 w' bp K nb m U b H V' ((N * (c + 97) + N * 5720 : Nat) : Int) b' H') ∨ (r = 0 ∧ ∃ ps V1 b' H', ps.length = N ∧ Tkn b.x.pages V ps V1 ∧ f = (ps.getD 0 0 : Nat) ∧ Did w0 w' bp K nb m U b H (putV V1 ps data N) ((N * (c + 97) + N * 5720 : Nat) : Int) b' H')
set_option maxHeartbeats 4000000 in
set_option maxRecDepth 100000 in
theorem nput_any {w0 w : World} {bp : Nat} {K : KL} {nb : Nat} {m : Mst} {U : Pages} {b : Bk} {H : List Ch} {V : Pages} (h : In w0 w bp K nb m U b H V) (sp : Sp b.x.pages V) (db doff n dc : Nat) (data : List UInt8) (hd : data.length = n) (od : Obj) (hod : (db, od) ∈ K) (hB : ∀ w' : World, w'.heap[db]? = some od → BytesAt w' (some ⟨db, doff, none⟩) data) (hn : 0 < n) (hn2 : n ≤ 65536) (hdc : n ≤ dc) (N c : Nat) (hN : N = (n + 501) / 502)
    (hc : ∀ p, p < b.x.pages → ownN b.x.pages ≤ p → ∀ S : List SpE, S.map (fun e => (e.off, e.off + e.n)) = diffS (V p) (zs 512) → sumN S ≤ (c : Int))
    (hP : phN b H + ((N * (c + 97) + c + N * 5720 : Nat) : Int) ≤ 380000) :
    Calls Tryz.prog 12 #[.pointer (some ⟨bp, 0, none⟩), .slice (some ⟨db, doff, none⟩) n dc] w fun e w' => ∃ f r, e = .returned (.tuple #[.int .i64 f, .int .i64 r]) ∧ Hid (PutR w0 w' bp K nb m U b H V data N c f r) := by
  have WX := nwithin_in h.ab (by have := h.pg3; omega) h.tx.st
  have TX := hidI (ntaken_any h sp N c (by omega) hc (by omega))
  have HI := hidI h
  have HSP := hidI sp
  have HB := hidI hB
  have HD := hidI hd
  have HO := hidI hod
  have HPH := hidI hP
  have HN := hidI hN
  have hNv : ((n : Int) + 502 - 1) / 502 = (N : Int) := by omega
  have hN0 : 0 < N := by omega
  have hN1 : N ≤ 1000 := by omega
  clear h sp hB hd hod hP hc hN
  go_enter Tryz.func12, Tryz.ntmps12
  go_upto_region 9 with (first
    | (go_at_call 34
       refine WX.mono ?_
       rintro e wz ⟨rfl, hz⟩
       rw [hz]
       clear hz)
    | (go_at_call 35
       rw [hNv]
       refine TX.out.mono ?_
       rintro e w1 ⟨v, r, rfl, T⟩
       clear TX hNv))
  rcases T.out with ⟨rfl, rfl, hno, b1, H1, V1, D1⟩ | ⟨rfl, ps, V1, KR, b1, H1, hl, tk, hrow, dj, D1⟩
  · have HX := hidI (And.intro hno D1)
    clear hno D1 T
    go_wp2_with fail
    go_ret2
    refine ⟨_, _, rfl, hidI (.inl ⟨rfl, rfl, HX.out.1.imp id (fun x => by omega), b1, H1, V1, HX.out.2.le (by omega)⟩)⟩
  · obtain ⟨pg, pcap, cur, rfl, hKR, hcur⟩ : ∃ pg pcap cur, v = .slice (some ⟨pg, 0, none⟩) N pcap ∧ KR = [(pg, Obj.cells cur 3)] ∧ cur.toList.take N = intsV ps := by
      have hli : (intsV ps).length = N := by unfold intsV; rw [List.length_map, hl]
      rcases hrow with ⟨-, h4, -⟩ | ⟨g, cap, cur, h4, -, h5, -, -, -, h6⟩
      · rw [h4] at hli
        simp at hli
        omega
      · rw [hli] at h4 h6
        exact ⟨g, cap, cur, h4, h5, h6⟩
    have hpg := (D1.i.ab.kp (pg, .cells cur 3) (by rw [hKR]; simp)).1
    have hdb := (D1.i.ab.kp (db, od) (by simp [HO.out])).1
    have LX := nlaid_any w1 db doff n dc data HD.out (HB.out w1 hdb) hn hn2 hdc ps N hl HN.out pg pcap cur hpg hcur
    have hc0 : w1.cell? ⟨pg, 0, none⟩ = some (.int .i64 (ps.getD 0 0 : Nat)) := by
      refine (cell_of_row w1 pg 0 _ _ _ hpg).trans ?_
      have h1 : (cur.toList.take N)[0]? = (intsV ps)[0]? := by rw [hcur]
      rw [List.getElem?_take, if_pos hN0] at h1
      rw [← Array.getElem?_toList, h1]
      unfold intsV
      rw [List.getElem?_map, List.getD_eq_getElem?_getD, List.getElem?_eq_getElem (by omega)]
      rfl
    have HX := hidI (And.intro hl (And.intro tk (And.intro hKR (And.intro dj (And.intro D1 hpg)))))
    clear hl tk hrow dj D1 hpg hdb hKR hcur T
    go_upto_region 12 with (first
      | (go_at_call 36
         refine LX.mono ?_
         rintro e w2 ⟨g, adf, cf, rfl, L⟩
         clear LX))
    have hg2 : ∃ cg, w2.heap[g]? = some (.cells cg 79) := by
      obtain ⟨cg, h1, -⟩ := L.out.1
      exact ⟨cg, h1⟩
    obtain ⟨cg, hcg⟩ := hg2
    have D2 : Did w0 w2 bp ((g, .cells cg 79) :: (KR ++ K)) nb m U b H (putV V1 ps data 0) ((N * (c + 97) + 0 * 5720 : Nat) : Int) b1 H1 := by
      have h1 := HX.out.2.2.2.2.1.quiet L.out.2.2.2
      have h2 := (HX.out.2.2.2.2.1.i.ab.fresh L.out.2.2.1).2.1
      exact ⟨h1.i.on (h1.i.ab.add hcg h2), h1.tr, by have := h1.ph; rw [Nat.zero_mul, Nat.add_zero]; exact this⟩
    have HL := hidI (And.intro L.out.1 (And.intro hcg L.out.2.1))
    have H2 := hidI D2
    have hdb2 : w2.heap[db]? = some od := (D2.i.ab.kp (db, od) (by simp [HO.out])).1
    have HDB2 := hidI hdb2
    have C0 := hidI hc0
    clear hc0 hcg D2 hdb2 L
    go_loopw [10, 11, 40] (fun s10 s11 s40 wr => ∃ j : Nat, s40 = .int .i64 (j : Int) ∧ j ≤ N ∧ Hid (∃ bj Hj, Did w0 wr bp ((g, .cells cg 79) :: (KR ++ K)) nb m U b H (putV V1 ps data j) ((N * (c + 97) + j * 5720 : Nat) : Int) bj Hj)) (fun _ _ s40 _ => N - (intOf s40).toNat)
    case atStart => exact ⟨0, rfl, by omega, hidI ⟨b1, H1, H2.out⟩⟩
    case round =>
      obtain ⟨j, rfl, hj, X⟩ := hrel
      by_cases hjN : j < N
      · obtain ⟨bj, Hj, Dj'⟩ := X.out
        have hjN' : (j : Int) < (N : Int) := by omega
        obtain ⟨o, ho, hbo⟩ := HL.out.2.2 j hjN
        have hrow : LkRow wr g N _ := HL.out.1.of HL.out.2.1 (Dj'.i.ab.kp (g, .cells cg 79) (by simp)).1
        obtain ⟨q, hq⟩ : ∃ q, ps.getD j 0 = q := ⟨_, rfl⟩
        obtain ⟨kk, hkk⟩ : ∃ kk : UInt8, (if j = 0 then 64 else 65 : UInt8) = kk := ⟨_, rfl⟩
        have hkn : (if j = 0 then 64 else 65 : Nat) = kk.toNat := by rw [← hkk]; split <;> rfl
        obtain ⟨nx, hnx⟩ : ∃ nx, (if j + 1 < N then ps.getD (j + 1) 0 else 0) = nx := ⟨_, rfl⟩
        obtain ⟨sz, hsz⟩ : ∃ sz, szOf n j = sz := ⟨_, rfl⟩
        obtain ⟨rr, hrr⟩ : ∃ rr, n - 502 * j - sz = rr := ⟨_, rfl⟩
        obtain ⟨cj, hcj⟩ : ∃ cj, cf j = cj := ⟨_, rfl⟩
        have hrange : wr.rangeAt g (5 * j) (lkV q kk.toNat nx rr (some ⟨db, o, none⟩) sz cj).toList := hrow.range hjN rfl (fun k hk => by
          unfold lkG lkV
          dsimp only
          rw [hq, hkn, hnx, hsz, hrr, ho, hcj]
          rcases (by omega : k = 0 ∨ k = 1 ∨ k = 2 ∨ k = 3 ∨ k = 4) with rfl | rfl | rfl | rfl | rfl <;> rfl)
        have Z4 := heap_alloc_new wr (.cells noLink 79)
        unfold noLink at Z4
        have HJ := hidI (And.intro hq (And.intro hkk (And.intro hnx (And.intro hsz (And.intro hrr (And.intro hbo (And.intro ho Dj')))))))
        clear hq hkk hkn hnx hsz hrr hcj hbo ho Dj' hrow X
        go_upto_region 14 with (first
          | (refine wpList_load_mid rfl 79 _ rfl g (j * 5) rfl (lkV q kk.toNat nx rr (some ⟨db, o, none⟩) sz cj).toList _ (by rw [Nat.mul_comm]; exact hrange) Tryz.underlying79 rfl sizeLk ?_)
          | (refine wp_storeL rfl _ _ rfl wr.heap.size _ (lkV q kk.toNat nx rr (some ⟨db, o, none⟩) sz cj) rfl rfl (lkV_one _ _ _ _ _ _ _) rfl rfl Z4 ?_
             intro w4 b4 f4))
        have F4 : Fr [] wr w4 := ((Fr.refl [] wr).alloc (.cells noLink 79)).then f4 (fun x hx hm => by
          have e := List.mem_singleton.1 hm
          omega)
        have SK : Hid (∀ w', Fr [] w4 w' → w'.heap[wr.heap.size]? = some (.cells (lkV q kk.toNat nx rr (some ⟨db, o, none⟩) sz cj) 79)) := hidI (fun w' f => f.same (by simp) b4)
        have DJ4 := hidI (HJ.out.2.2.2.2.2.2.2.quiet F4)
        clear Z4 hrange f4 b4
        go_simp
        go_cut [11] from 44 to 49 (fun s11 wx => ∃ r : Int, s11 = .int .i64 r ∧ Hid ((r = 5 ∧ capN b < phN b H + 35 + ((N * (c + 97) + c + N * 5720 : Nat) : Int) ∧ ∃ b' H', Did w0 wx bp ((g, .cells cg 79) :: (KR ++ K)) nb m U b H (putV V1 ps data j) ((N * (c + 97) + j * 5720 : Nat) : Int) b' H') ∨ (r = 0 ∧ ∃ b' H', Did w0 wx bp ((g, .cells cg 79) :: (KR ++ K)) nb m U b H (putV V1 ps data (j + 1)) ((N * (c + 97) + (j + 1) * 5720 : Nat) : Int) b' H')))
        case first => as_aux_lemma =>
          have tok := (HX.out.2.1.ok HSP.out (fun x hx => HI.out.len hx))
          have hps : ∀ x, x < N → ps.getD x 0 < b.x.pages := fun x hx => by
            have h1 := HX.out.1
            rw [List.getD_eq_getElem?_getD, List.getElem?_eq_getElem (by omega)]
            exact (tok.free _ (List.getElem_mem _)).1
          have hpg3 := HI.out.pg3
          have hqp : q < b.x.pages := by rw [← HJ.out.1]; exact hps j hjN
          have hnx : nx < 4294967296 := by
            rw [← HJ.out.2.2.1]
            split
            · have := hps (j + 1) (by assumption)
              omega
            · omega
          have hN3 := HN.out
          have hpc := pieceOf_len (data := data) (j := j) (N := N) (by rw [HD.out]; exact HN.out) hjN
          have hsz := HJ.out.2.2.2.1
          rw [HD.out, hsz] at hpc
          have hrr := HJ.out.2.2.2.2.1
          have hpi : (data.drop (502 * j)).take (szOf n j) = pieceOf data j := by unfold pieceOf; rw [HD.out]
          have BYX := hidI (fun (W : World) (f : Fr [] w4 W) => nbytes_any W (q : Int) kk nx rr (some ⟨db, o, none⟩) sz cj (pieceOf data j) hpc.1 (by
            have h1 := HJ.out.2.2.2.2.2.1
            rw [HJ.out.2.2.2.2.2.2.1, hpi] at h1
            have h2 := (DJ4.out.i.ab.kp (db, od) (by simp [HO.out])).1
            exact h1.block (f.same (by simp) h2) HDB2.out) hpc.2.1 hpc.2.2 hnx (by omega))
          have hlp : Pg.pgB kk nx [lkCell rr (pieceOf data j)] = lkPg ps data j := by
            unfold lkPg
            rw [HJ.out.2.1, HD.out, hsz, hrr, HX.out.1, HJ.out.2.2.1]
          have PUX := hidI (fun (W : World) (f : Fr [] w4 W) (g5 : Nat) (hb5 : Blk W g5 (Pg.pgB kk nx [lkCell rr (pieceOf data j)])) (hg5 : w4.heap.size ≤ g5) => in_put (DJ4.out.quiet f).i (page := q) (by rw [DJ4.out.tr.pages]; exact hqp) (g := g5) (k := 512) (data := lkPg ps data j) (lkPg_len (N := N) (by rw [HD.out]; exact HN.out) hjN) (Nat.le_refl _) (by rw [← hlp]; exact hb5.bytes) (DJ4.out.i.ab.fresh hg5).2.1 (by
            have h1 := DJ4.out.ph
            have h2 := HPH.out
            omega) (c := 5720) (fun S hS => cost_any hS))
          have FIN := hidI (fun (W W6 : World) (f : Fr [] w4 W) (r : Int) (Q : (r = 5 ∧ capN bj < phN bj Hj + 35 + (5720 : Int) ∧ ∃ b', Did w0 W6 bp ((g, .cells cg 79) :: (KR ++ K)) nb m U bj Hj (putV V1 ps data j) 0 b' Hj) ∨ (r = 0 ∧ ∃ b' H', Did w0 W6 bp ((g, .cells cg 79) :: (KR ++ K)) nb m U bj Hj (setPg (putV V1 ps data j) q (lkPg ps data j)) (5720 : Int) b' H')) => (by
            have D4 := DJ4.out.quiet f
            rcases Q with ⟨h1, h2, b', h3⟩ | ⟨h1, b', H', h3⟩
            · refine .inl ⟨h1, ?_, b', _, (D4.trans h3).le (by omega)⟩
              have h4 := D4.ph
              have h5 := D4.tr.cap
              omega
            · refine .inr ⟨h1, b', H', ?_⟩
              have h4 := (D4.trans h3).le (d := ((N * (c + 97) + (j + 1) * 5720 : Nat) : Int)) (by omega)
              show Did w0 W6 bp _ nb m U b H (setPg (putV V1 ps data j) (ps.getD j 0) (lkPg ps data j)) _ b' H'
              rw [HJ.out.1]
              exact h4 : (r = 5 ∧ capN b < phN b H + 35 + ((N * (c + 97) + c + N * 5720 : Nat) : Int) ∧ ∃ b' H', Did w0 W6 bp ((g, .cells cg 79) :: (KR ++ K)) nb m U b H (putV V1 ps data j) ((N * (c + 97) + j * 5720 : Nat) : Int) b' H') ∨ (r = 0 ∧ ∃ b' H', Did w0 W6 bp ((g, .cells cg 79) :: (KR ++ K)) nb m U b H (putV V1 ps data (j + 1)) ((N * (c + 97) + (j + 1) * 5720 : Nat) : Int) b' H')))
          clear tok hps hpg3 hqp hnx hN3 hpc hsz hrr hpi hlp
          have gg : Fr [] w4 w4.drew := (Fr.refl [] w4).drew
          have sk := SK.out _ gg
          have d0 : w4.drew.cell? ⟨wr.heap.size, 0, none⟩ = some (.int .i64 (q : Int)) := cell_of_row _ _ 0 _ _ _ sk
          have d1 : w4.drew.cell? ⟨wr.heap.size, 1, none⟩ = some (.int .u8 kk.toNat) := cell_of_row _ _ 1 _ _ _ sk
          have d2 : w4.drew.cell? ⟨wr.heap.size, 2, none⟩ = some (.int .i64 nx) := cell_of_row _ _ 2 _ _ _ sk
          have d3 : w4.drew.cell? ⟨wr.heap.size, 3, none⟩ = some (.int .i64 rr) := cell_of_row _ _ 3 _ _ _ sk
          have d4 : w4.drew.cell? ⟨wr.heap.size, 4, none⟩ = some (.slice (some ⟨db, o, none⟩) sz cj) := cell_of_row _ _ 4 _ _ _ sk
          clear sk
          go_region_with (first
            | (go_at_call 38
               refine (BYX.out _ gg).mono ?_
               rintro e w5 ⟨g5, rfl, P5⟩
               have gg5 := gg.trans P5.out.2.2
               have e0 : w5.cell? ⟨wr.heap.size, 0, none⟩ = some (.int .i64 (q : Int)) := cell_of_row _ _ 0 _ _ _ (SK.out _ gg5)
               have PX := hidI (PUX.out _ gg5 g5 P5.out.1 (by have := P5.out.2.1; simpa using this))
               clear d0 d1 d2 d3 d4)
            | (go_at_call 37
               refine PX.out.mono ?_
               rintro e w6 ⟨r, rfl, Q⟩
               have QQ := hidI (FIN.out w5 w6 gg5 r Q.out)))
          all_goals go_wp2_with fail
          all_goals go_meet
          all_goals exact ⟨r, rfl, QQ⟩
        case rest =>
          obtain ⟨r, rfl, Y⟩ := hcut
          have hr : r = 5 ∨ r = 0 := Y.out.elim (fun x => .inl x.1) (fun x => .inr x.1)
          rcases hr with rfl | rfl
          · go_wp2_with fail
            go_ret2
            rcases Y.out with ⟨-, h2, b', H', h3⟩ | ⟨h1, -⟩
            · exact ⟨_, _, rfl, hidI (.inl ⟨rfl, rfl, .inr h2, b', H', _, (Did.on (K1 := K) h3 (fun x hx => by simp [hx])).le (by omega)⟩)⟩
            · omega
          · go_wp2_with fail
            rcases Y.out with ⟨h1, -⟩ | ⟨-, b', H', h3⟩
            · omega
            · exact ⟨⟨j + 1, by go_num, by omega, hidI ⟨b', H', h3⟩⟩, by simp [intOf]; omega⟩
      · obtain rfl : j = N := by omega
        obtain ⟨bj, Hj, Dj'⟩ := X.out
        have hjN' : ¬ ((j : Int) < (j : Int)) := by omega
        have hc0 : wr.cell? ⟨pg, 0, none⟩ = some (.int .i64 (ps.getD 0 0 : Nat)) := by
          refine (cell_of_row wr pg 0 _ _ _ ((Dj'.i.ab.kp (pg, .cells cur 3) (by rw [HX.out.2.2.1]; simp)).1)).trans ?_
          exact (cell_of_row w1 pg 0 _ _ _ HX.out.2.2.2.2.2).symm.trans (C0.out)
        have h0i : (0 : Int) < (j : Int) := by omega
        have HF := hidI Dj'
        clear Dj' X
        go_wp2_with fail
        go_ret2
        exact ⟨_, _, rfl, hidI (.inr ⟨rfl, ps, V1, bj, Hj, HX.out.1, HX.out.2.1, rfl, (Did.on (K1 := K) HF.out (fun x hx => by simp [hx])).le (by omega)⟩)⟩
end Go.Proofs.YthajipigppndgaaGreat

namespace Go.Proofs.YthajipigppndgaaGreat
open Go.RowKit Go.Maps
theorem putV_else {V : Pages} {ps : List Nat} {data : List UInt8} {q : Nat} (hq : q ∉ ps) : ∀ {N : Nat}, N ≤ ps.length → putV V ps data N q = V q := by
  intro N
  induction N with
  | zero => intro _; rfl
  | succ N ih =>
    intro h
    have hne : q ≠ ps.getD N 0 := fun e => hq (by
      rw [e, List.getD_eq_getElem?_getD, List.getElem?_eq_getElem (by omega)]
      exact List.getElem_mem _)
    show setPg (putV V ps data N) (ps.getD N 0) (lkPg ps data N) q = V q
    unfold setPg
    rw [if_neg hne]
    exact ih (by omega)
theorem putV_at {V : Pages} {ps : List Nat} {data : List UInt8} (nd : ps.Nodup) {j : Nat} : ∀ {N : Nat}, j < N → N ≤ ps.length → putV V ps data N (ps.getD j 0) = lkPg ps data j := by
  intro N
  induction N with
  | zero => intro h; omega
  | succ N ih =>
    intro h1 h2
    show setPg (putV V ps data N) (ps.getD N 0) (lkPg ps data N) (ps.getD j 0) = lkPg ps data j
    unfold setPg
    by_cases e : j = N
    · subst e
      rw [if_pos rfl]
    · have hne : ps.getD j 0 ≠ ps.getD N 0 := fun x => by
        rw [List.getD_eq_getElem?_getD, List.getD_eq_getElem?_getD, List.getElem?_eq_getElem (by omega), List.getElem?_eq_getElem (by omega)] at x
        exact List.pairwise_iff_getElem.1 nd j N (by omega) (by omega) (by omega) (by simpa using x)
      rw [if_neg hne]
      exact ih (by omega) (by omega)
theorem restOf_lk {rest : Nat} {piece : List UInt8} (h : rest < 65536) : restOf (lkCell rest piece) = (rest : Int) := by
  unfold restOf lkCell
  show ((UInt8.ofNat (rest / 256)).toNat : Int) * 256 + ((UInt8.ofNat rest).toNat : Int) = rest
  rw [UInt8.toNat_ofNat', UInt8.toNat_ofNat']
  omega
theorem pgB_facts {k : UInt8} {nx : Nat} {cell : List UInt8} (hc : cell.length ≤ 504) (hx : nx < 4294967296) : Pg.cellsOf (Pg.pgB k nx [cell]) = [cell] ∧ Pg.kindOf (Pg.pgB k nx [cell]) = k.toNat ∧ Pg.nextOf (Pg.pgB k nx [cell]) = nx := by
  have hp : Pg.Pg (Pg.pgB k nx [cell]) k nx [cell] := ⟨rfl, by rw [Pg.elen_one]; omega, hx⟩
  refine ⟨Pg.cells_some hp.page, ?_, ?_⟩
  · unfold Pg.kindOf
    rw [if_pos hp.ok, hp.kind]
  · unfold Pg.nextOf
    rw [if_pos hp.ok, hp.next]
structure LkF (n : Nat) (ps : List Nat) (data : List UInt8) (N j : Nat) (l : List UInt8) : Prop where
  cell : cellOf l = lkCell (data.length - 502 * j - szOf data.length j) (pieceOf data j)
  ok : lkOk l = true
  kind : Pg.kindOf l = if j = 0 then 64 else 65
  next : Pg.nextOf l = if j + 1 < N then ps.getD (j + 1) 0 else 0
  rs : rsOf l = ((data.length - 502 * j - szOf data.length j : Nat) : Int)
  al : alOf l = ((data.length - 502 * j : Nat) : Int)
theorem lkF_of {n : Nat} {ps : List Nat} {data : List UInt8} {N j : Nat} (hN : N = (data.length + 501) / 502) (hl : ps.length = N) (hd : data.length ≤ 65536) (hj : j < N) (hps : ∀ x, x < N → ps.getD x 0 < 65536) : LkF n ps data N j (lkPg ps data j) := by
  have hp := pieceOf_len hN hj
  have hx : (if j + 1 < ps.length then ps.getD (j + 1) 0 else 0) < 4294967296 := by
    split
    · have := hps (j + 1) (by omega)
      omega
    · omega
  have hcl : (lkCell (data.length - 502 * j - szOf data.length j) (pieceOf data j)).length = szOf data.length j + 2 := by rw [lkCell_length, hp.1]
  have hf := pgB_facts (k := if j = 0 then 64 else 65) (cell := lkCell (data.length - 502 * j - szOf data.length j) (pieceOf data j)) (by omega) hx
  have hsz : szOf data.length j = min 502 (data.length - 502 * j) := rfl
  have hrl : data.length - 502 * j - szOf data.length j < 65536 := by omega
  have hrs := restOf_lk (piece := pieceOf data j) hrl
  have hce : cellOf (lkPg ps data j) = lkCell (data.length - 502 * j - szOf data.length j) (pieceOf data j) := by
    unfold cellOf lkPg
    rw [hf.1]
    rfl
  refine ⟨hce, ?_, ?_, ?_, ?_, ?_⟩
  · unfold lkOk lkPg
    rw [hf.1]
    simp only [hf.2.2, hrs, hcl]
    unfold lkRight
    by_cases h0 : data.length - 502 * j - szOf data.length j = 0
    · rw [if_pos (by omega), if_neg (by omega)]
      simp
      omega
    · rw [if_neg (by omega)]
      simp
      omega
  · unfold lkPg
    rw [hf.2.1]
    split <;> rfl
  · unfold lkPg
    rw [hf.2.2, hl]
  · unfold rsOf
    rw [hce, hrs]
  · unfold alOf rsOf
    rw [hce, hrs, hcl]
    omega
structure Laid (n : Nat) (V V' : Pages) (data : List UInt8) (ps : List Nat) : Prop where
  sp : Sp n V'
  len : ∀ q, q < n → (V' q).length = 512
  bits : ∀ k, k < n → MkB V' k = (MkB V k || decide (k ∈ ps))
  free : ∀ p ∈ ps, p < n ∧ ownN n ≤ p ∧ MkB V p = false
  other : ∀ q, q < n → ownN n ≤ q → q ∉ ps → V' q = V q
  nd : ps.Nodup
  ch : ChW n V' (ps.getD 0 0 : Nat) ps true
  val : valOf V' ps = data
theorem laid_of {n : Nat} {V V1 : Pages} {data : List UInt8} {ps : List Nat} {N : Nat} (hN : N = (data.length + 501) / 502) (hl : ps.length = N) (hd : data.length ≤ 65536) (h0 : 0 < data.length) (hn : n ≤ 65536) (tk : TknOk n V ps V1) : Laid n V (putV V1 ps data N) data ps := by
  have hN0 : 0 < N := by omega
  have hmem : ∀ x, x < N → ps.getD x 0 ∈ ps := fun x hx => by
    rw [List.getD_eq_getElem?_getD, List.getElem?_eq_getElem (by omega)]
    exact List.getElem_mem _
  have hps : ∀ x, x < N → ps.getD x 0 < n := fun x hx => (tk.free _ (hmem x hx)).1
  have hat : ∀ j, j < N → putV V1 ps data N (ps.getD j 0) = lkPg ps data j := fun j hj => putV_at tk.nd hj (by omega)
  have helse : ∀ q, q ∉ ps → putV V1 ps data N q = V1 q := fun q hq => putV_else hq (by omega)
  have hown : ∀ q, q < ownN n → q ∉ ps := fun q hq hm => by
    have := (tk.free q hm).2.1
    omega
  have hbits : ∀ k, k < n → MkB (putV V1 ps data N) k = MkB V1 k := fun k hk => MkB_congr (helse _ (hown _ (own_gt hk)))
  have hF : ∀ j, j < N → LkF n ps data N j (putV V1 ps data N (ps.getD j 0)) := fun j hj => by
    rw [hat j hj]
    exact lkF_of hN hl hd hj (fun x hx => by have := hps x hx; omega)
  have hLk : ∀ j, j < N → LkAt n (putV V1 ps data N) (ps.getD j 0) (if j = 0 then 64 else 65) := fun j hj => by
    have f := tk.free _ (hmem j hj)
    refine ⟨f.2.1, f.1, ?_, (hF j hj).ok, (hF j hj).kind⟩
    rw [hbits _ f.1, tk.bits _ f.1, decide_eq_true (hmem j hj), Bool.or_true]
  have hdrop : ∀ j, j < N → ps.drop j = ps.getD j 0 :: ps.drop (j + 1) := fun j hj => by
    rw [List.getD_eq_getElem?_getD, List.getElem?_eq_getElem (by omega)]
    exact (List.drop_eq_getElem_cons (by omega))
  have hwk : ∀ (i j : Nat), j + i = N → 0 < i → ∀ want : Option Int, (∀ r, want = some r → ((data.length - 502 * j : Nat) : Int) = r) → Wk n (putV V1 ps data N) (ps.getD j 0 : Nat) (if j = 0 then 64 else 65) want (ps.drop j) true := by
    intro i
    induction i with
    | zero => intro j _ h; omega
    | succ i ih =>
      intro j hj _ want hw
      have hjN : j < N := by omega
      have F := hF j hjN
      rw [hdrop j hjN]
      by_cases h1 : i = 0
      · have hz : data.length - 502 * j - szOf data.length j = 0 := by
          unfold szOf
          omega
        rw [List.drop_eq_nil_of_le (by omega)]
        exact .last _ _ want (hLk j hjN) (fun r hr => by rw [F.al]; exact hw r hr) (by rw [F.rs, hz]; rfl)
      · have hz : szOf data.length j = 502 ∧ 0 < data.length - 502 * (j + 1) := by
          unfold szOf
          omega
        refine .more _ _ want _ true (hLk j hjN) (fun r hr => by rw [F.al]; exact hw r hr) (by rw [F.rs]; omega) ?_
        have h2 := ih (j + 1) (by omega) (by omega) (some (rsOf (putV V1 ps data N (ps.getD j 0)))) (fun r hr => by
          cases hr
          rw [F.rs]
          omega)
        rw [if_neg (by omega)] at h2
        rw [F.next, if_pos (by omega)]
        exact h2
  have hval : ∀ (i j : Nat), j + i = N → valOf (putV V1 ps data N) (ps.drop j) = data.drop (502 * j) := by
    intro i
    induction i with
    | zero =>
      intro j hj
      rw [List.drop_eq_nil_of_le (by omega), List.drop_eq_nil_of_le (by omega)]
      rfl
    | succ i ih =>
      intro j hj
      have hjN : j < N := by omega
      rw [hdrop j hjN]
      have h1 := ih (j + 1) (by omega)
      show (cellOf (putV V1 ps data N (ps.getD j 0))).drop 2 ++ valOf (putV V1 ps data N) (ps.drop (j + 1)) = _
      rw [h1, (hF j hjN).cell]
      show pieceOf data j ++ _ = _
      unfold pieceOf
      have hs : szOf data.length j = min 502 (data.length - 502 * j) := rfl
      by_cases h5 : 502 ≤ data.length - 502 * j
      · rw [show szOf data.length j = 502 by omega, Nat.mul_add, Nat.mul_one, ← List.drop_drop]
        exact List.take_append_drop _ _
      · rw [List.take_of_length_le (by rw [List.length_drop]; omega), (show data.drop (502 * (j + 1)) = [] from List.drop_eq_nil_of_le (by omega)), List.append_nil]
  refine ⟨⟨?_, fun k hk => ?_⟩, fun q hq => ?_, fun k hk => by rw [hbits k hk, tk.bits k hk], tk.free, fun q hq ho hm => by rw [helse q hm, tk.other q hq ho hm], tk.nd, .inr ⟨?_, ?_⟩, ?_⟩
  · rw [helse 0 (hown 0 (by unfold ownN; omega))]
    exact tk.sp.hd
  · have h1 : MkB (putV V1 ps data N) k = MkB V1 k := MkB_congr (helse _ (hown _ (by
      have := hps 0 hN0
      have h3 := (tk.free _ (hmem 0 hN0)).2.1
      exact own_gt (n := n) (by omega))))
    rw [h1]
    exact tk.sp.own k hk
  · by_cases hm : q ∈ ps
    · obtain ⟨j, hj, rfl⟩ := List.getElem_of_mem hm
      have h1 := hat j (by omega)
      rw [List.getD_eq_getElem?_getD, List.getElem?_eq_getElem hj] at h1
      show (putV V1 ps data N ps[j]).length = 512
      rw [show putV V1 ps data N ps[j] = lkPg ps data j from h1]
      exact lkPg_len hN (by omega)
    · rw [helse q hm]
      exact tk.len q hq
  · have := (tk.free _ (hmem 0 hN0)).2.1
    unfold ownN at this
    omega
  · have := hwk N 0 (by omega) hN0 none (fun r hr => nomatch hr)
    exact this
  · have := hval N 0 (by omega)
    simpa using this
end Go.Proofs.YthajipigppndgaaGreat


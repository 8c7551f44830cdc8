/-
  The laws' beginning, at a hundred blocks.
-/
import Derived.Test.YthajipigppndgaaGreatZBM
import Derived.Laws.MakeOwn
import Derived.Laws.AppendOwnNone
import Derived.Test.YthajipigppndgaaGreatY33Z
import Derived.Test.YthajipigppndgaaGreatY37Z
namespace Go.Proofs.YthajipigppndgaaGreat
open Go.RowKit Go.Maps
def giveV (V : Pages) (l : List Nat) : Pages := l.foldl (fun V q => bitV V q clrB) V
structure GiveOk (n : Nat) (V V' : Pages) (l : List Nat) : Prop where
  sp : Sp n V'
  len : ∀ q, q < n → (V' q).length = 512
  bits : ∀ k, k < n → MkB V' k = (MkB V k && decide (k ∉ l))
  other : ∀ q, ownN n ≤ q → V' q = V q
theorem bitV_len {n : Nat} {V : Pages} {q : Nat} {f : UInt8 → Nat → UInt8} (h : ∀ q, q < n → (V q).length = 512) {x : Nat} (hx : x < n) : (bitV V q f x).length = 512 := by
  by_cases e : x = 1 + q / 4096
  · subst e
    unfold bitV
    rw [setPg_at, List.length_set]
    exact h _ hx
  · rw [bitV_else e]
    exact h x hx
theorem giveV_ok {n : Nat} {V : Pages} (sp : Sp n V) (hl : ∀ q, q < n → (V q).length = 512) : ∀ l : List Nat, (∀ q ∈ l, q < n ∧ ownN n ≤ q) → GiveOk n V (giveV V l) l := by
  suffices ∀ (l : List Nat) (V1 : Pages) (d : List Nat), GiveOk n V V1 d → (∀ q ∈ l, q < n ∧ ownN n ≤ q) → GiveOk n V (giveV V1 l) (d ++ l) by
    intro l h
    exact this l V [] ⟨sp, hl, fun k _ => by simp, fun _ _ => rfl⟩ h
  intro l
  induction l with
  | nil => intro V1 d h _; simpa [giveV] using h
  | cons q l ih =>
    intro V1 d h hq
    have hq1 := hq q (by simp)
    have hm : 1 + q / 4096 < n := by
      have := own_gt hq1.1
      omega
    have h2 : GiveOk n V (bitV V1 q clrB) (d ++ [q]) := ⟨h.sp.give hq1.1 hq1.2 (h.len _ hm), fun x hx => bitV_len h.len hx, fun k hk => by
      rw [bitV_clr (h.len _ hm), h.bits k hk, Bool.and_assoc, ← Bool.decide_and]
      congr 1
      simp, fun x hx => by
      rw [bitV_else (by
        have := own_gt hq1.1
        omega)]
      exact h.other x hx⟩
    have h3 := ih (bitV V1 q clrB) (d ++ [q]) h2 (fun x hx => hq x (by simp [hx]))
    simpa [giveV] using h3
theorem wk_nd {n : Nat} {V : Pages} (hl : ∀ q, q < n → (V q).length = 512) {k : Int} {kind : Nat} {want : Option Int} {l : List Nat} {t : Bool} (h : Wk n V k kind want l t) : l.Nodup ∧ ∀ r, want = some r → ∀ q ∈ l, alOf (V q) ≤ r := by
  induction h with
  | bad => exact ⟨List.nodup_nil, fun r _ q hq => nomatch hq⟩
  | last q kind want h hw h0 => exact ⟨by simp, fun r hr x hx => by rw [List.mem_singleton.1 hx, hw r hr]; exact Int.le_refl _⟩
  | more q kind want l t h hw h0 _ ih =>
    have h2 := (lk_cell h (hl q h.hi)).2.1
    have h3 : rsOf (V q) < alOf (V q) := by
      unfold alOf
      omega
    refine ⟨List.nodup_cons.2 ⟨fun hm => ?_, ih.1⟩, fun r hr x hx => ?_⟩
    · have := ih.2 _ rfl q hm
      omega
    · rcases List.mem_cons.1 hx with rfl | hx
      · rw [hw r hr]; exact Int.le_refl _
      · have h4 := ih.2 _ rfl x hx
        rw [hw r hr] at h3
        omega
theorem ch_pages {n : Nat} {V : Pages} (hl : ∀ q, q < n → (V q).length = 512) {first : Int} {l : List Nat} {t : Bool} (h : ChW n V first l t) : l.Nodup ∧ ∀ q ∈ l, q < n ∧ ownN n ≤ q ∧ MkB V q = true := by
  rcases h with ⟨-, rfl, -⟩ | ⟨-, h⟩
  · exact ⟨List.nodup_nil, fun q hq => nomatch hq⟩
  · exact ⟨(wk_nd hl h).1, fun q hq => by
      have k := (wk_val h).2.2 q hq
      exact ⟨k.hi, k.lo, k.mk'⟩⟩
def DropR (w0 w' : World) (bp : Nat) (K : KL) (nb : Nat) (m : Mst) (U : Pages) (b : Bk) (H : List Ch) (V : Pages) (l : List Nat) (t : Bool) (r : Int) : Prop :=
  (t = false ∧ r = 4 ∧ ∃ b', Did w0 w' bp K nb m U b H V 0 b' H) ∨ (t = true ∧ r = 5 ∧ capN b < phN b H + 35 + ((l.length * 97 : Nat) : Int) ∧ ∃ b' H' V', Did w0 w' bp K nb m U b H V' ((l.length * 97 : Nat) : Int) b' H') ∨ (t = true ∧ r = 0 ∧ ∃ b' H', Did w0 w' bp K nb m U b H (giveV V l) ((l.length * 97 : Nat) : Int) b' H')
set_option maxHeartbeats 4000000 in
set_option maxRecDepth 100000 in
theorem ndrop_any {w0 w : World} {bp : Nat} {K : KL} {nb : Nat} {m : Mst} {U : Pages} {b : Bk} {H : List Ch} {V : Pages} (h : In w0 w bp K nb m U b H V) (sp : Sp b.x.pages V) (first : Int) {l : List Nat} {t : Bool} (hw : ChW b.x.pages V first l t) (hlen : l.length ≤ 1000) (hP : phN b H + ((l.length * 97 : Nat) : Int) ≤ 380000) :
    Calls Tryz.prog 15 #[.pointer (some ⟨bp, 0, none⟩), .int .i64 first] w fun e w' => ∃ r, e = .returned (.int .i64 r) ∧ Hid (DropR w0 w' bp K nb m U b H V l t r) := by
  have hpg := h.pg3
  have WX := nwithin_in h.ab (by omega) h.tx.st
  have BX := hidI (nblocks_any h.ab h.tx.sh (by omega) (by omega) sp.hd first hw)
  have HI := hidI h
  have HSP := hidI sp
  have HCP := hidI (ch_pages (V := V) (fun q hq => h.len hq) hw)
  have HPH := hidI hP
  clear h sp hw hP hpg
  go_enter Tryz.func15, Tryz.ntmps15
  go_upto_region 5 with (first
    | (go_at_call 34
       refine WX.mono ?_
       rintro e wz ⟨rfl, hz⟩
       rw [hz]
       clear hz)
    | (go_at_call 14
       refine BX.out.mono ?_
       rintro e w1 ⟨v, ev, rfl, KR, T⟩
       clear BX))
  obtain ⟨⟨b1, r1⟩, dj, T2⟩ := T.out
  have D1 : Did w0 w1 bp (KR ++ K) nb m U b H V 0 b1 H := ⟨HI.out.rd r1, r1.tr, by unfold phN; rw [r1.E]; omega⟩
  rcases T2 with ⟨rfl, rfl, rfl, rfl⟩ | ⟨rfl, rfl, hrow⟩
  · have HD := hidI D1
    clear D1 dj r1 T
    go_wp2_with fail
    go_ret
    exact ⟨_, rfl, hidI (.inl ⟨rfl, rfl, b1, HD.out⟩)⟩
  · obtain ⟨va, vc, rfl, hcell⟩ : ∃ va vc, v = .slice va l.length vc ∧ Hid (∀ w' : World, (∀ p ∈ KR, w'.heap[p.1]? = some p.2) → ∀ i q : Nat, l[i]? = some q → ∃ g, va = some ⟨g, 0, none⟩ ∧ w'.cell? ⟨g, i, none⟩ = some (.int .i64 (q : Int))) := by
      rcases hrow with ⟨rfl, h2, -⟩ | ⟨g, cap, cur, h4, -, h5, -, -, -, h6⟩
      · have hl : l = [] := by simpa using h2
        subst hl
        exact ⟨none, 0, rfl, hidI (fun w' _ i q hi => by simp at hi)⟩
      · rw [List.length_map] at h4 h6
        refine ⟨some ⟨g, 0, none⟩, cap, h4, hidI (fun w' hk i q hi => ⟨g, rfl, ?_⟩)⟩
        refine (cell_of_row w' g i _ _ _ (hk (g, .cells cur 3) (by rw [h5]; simp))).trans ?_
        have h1 : (cur.toList.take l.length)[i]? = (l.map fun q : Nat => Value.int .i64 (q : Int))[i]? := by rw [h6]
        have hil : i < l.length := (List.getElem?_eq_some_iff.1 hi).1
        rw [List.getElem?_take, if_pos hil] at h1
        rw [← Array.getElem?_toList, h1, List.getElem?_map, hi]
        rfl
    have H1 := hidI (show Did w0 w1 bp (KR ++ K) nb m U b H (giveV V (l.take 0)) ((0 * 97 : Nat) : Int) b1 H from by rw [Nat.zero_mul, List.take_zero]; exact D1)
    clear D1 dj r1 T hrow
    go_wp2_with fail
    go_loopw [9, 10, 27] (fun s9 s10 s27 wr => ∃ i : Nat, s27 = .int .i64 (i : Int) ∧ i ≤ l.length ∧ Hid (∃ bi Hi, Did w0 wr bp (KR ++ K) nb m U b H (giveV V (l.take i)) ((i * 97 : Nat) : Int) bi Hi)) (fun _ _ s27 _ => l.length - (intOf s27).toNat)
    case atStart => exact ⟨0, rfl, by omega, hidI ⟨b1, H, H1.out⟩⟩
    case round =>
      obtain ⟨i, rfl, hi, X⟩ := hrel
      obtain ⟨bi, Hi, Di⟩ := X.out
      by_cases hil : i < l.length
      · have hil' : (i : Int) < (l.length : Int) := by omega
        obtain ⟨q, hq⟩ : ∃ q, l[i]? = some q := ⟨_, List.getElem?_eq_getElem hil⟩
        obtain ⟨g, rfl, hc⟩ := hcell.out wr (fun p hp => (Di.i.ab.kp p (List.mem_append.2 (.inl hp))).1) i q hq
        have hpg : bi.x.pages = b.x.pages := Di.tr.pages
        have hmem : q ∈ l := List.mem_of_getElem? hq
        have gk := giveV_ok HSP.out (fun x hx => HI.out.len hx) (l.take i) (fun x hx => by
          have := HCP.out.2 x (List.mem_of_mem_take hx)
          exact ⟨this.1, this.2.1⟩)
        have hqn : q ∉ l.take i := fun hm => by
          obtain ⟨k, hk, e⟩ := List.getElem_of_mem hm
          rw [List.length_take] at hk
          rw [List.getElem_take] at e
          have h3 := List.pairwise_iff_getElem.1 HCP.out.1 k i (by omega) hil (by omega)
          have h4 : l[i] = q := (List.getElem?_eq_some_iff.1 hq).2
          exact h3 (by rw [e, h4])
        have h4 := HCP.out.2 q hmem
        have hbit : MkB (giveV V (l.take i)) q = true := by
          rw [gk.bits q h4.1, h4.2.2, decide_eq_true hqn]
          rfl
        have hmul : (i + 1) * 97 ≤ l.length * 97 := Nat.mul_le_mul_right _ hil
        have GX := sgive_in Di.i (by rw [hpg]; exact gk.sp) q (by rw [hpg]; exact h4.1) (by rw [hpg]; exact h4.2.1) hbit (by have := Di.ph; have := HPH.out; omega)
        have HD := hidI (And.intro Di (And.intro hq hmul))
        clear Di hq hpg hmem gk hqn h4 hbit X hmul
        go_upto_region 11 with (first
          | (go_at_call 41
             refine GX.mono ?_
             rintro e w2 ⟨r, rfl, Y⟩
             clear GX))
        rcases Y.out with ⟨rfl, h2, b2, D2⟩ | ⟨rfl, b2, H2, D2⟩
        · have HE := hidI (And.intro h2 D2)
          clear h2 D2 Y
          go_wp2_with fail
          go_ret
          refine ⟨_, rfl, hidI (.inr (.inl ⟨rfl, rfl, ?_, b2, Hi, _, (Did.on (K1 := K) (HD.out.1.trans HE.out.2) (fun x hx => by simp [hx])).le (by have := HD.out.2.2; omega)⟩))⟩
          have h3 := HD.out.1.ph
          have h4 := HD.out.1.tr.cap
          have h5 := HE.out.1
          have h6 := HD.out.2.2
          omega
        · have HE := hidI D2
          clear D2 Y
          go_wp2_with fail
          refine ⟨⟨i + 1, by go_num, by omega, hidI ⟨b2, H2, ?_⟩⟩, by simp [intOf]; omega⟩
          have h3 := (HD.out.1.trans HE.out).le (d := (((i + 1) * 97 : Nat) : Int)) (by omega)
          have e : giveV V (l.take (i + 1)) = bitV (giveV V (l.take i)) q clrB := by
            unfold giveV
            rw [List.take_add_one, HD.out.2.1, List.foldl_append]
            rfl
          rw [e]
          exact h3
      · obtain rfl : i = l.length := by omega
        have hil' : ¬ ((l.length : Int) < (l.length : Int)) := by omega
        have HD := hidI Di
        clear Di X
        go_wp2_with fail
        go_ret
        refine ⟨_, rfl, hidI (.inr (.inr ⟨rfl, rfl, bi, Hi, ?_⟩))⟩
        have h3 := Did.on (K1 := K) HD.out (fun x hx => by simp [hx])
        rw [List.take_length] at h3
        exact h3
end Go.Proofs.YthajipigppndgaaGreat

namespace Go.Proofs.YthajipigppndgaaGreat
open Go.RowKit Go.Maps
set_option maxHeartbeats 1000000 in
set_option maxRecDepth 100000 in
theorem same_ownS (w : World) (a1 a2 : Option Addr) (l1 l2 : List UInt8) (n c1 c2 : Nat) (h1 : BytesAt w a1 l1) (h2 : BytesAt w a2 l2) (n1 : l1.length = n) (n2 : l2.length = n) (hn : n ≤ 1000000) :
    Calls Tryz.prog 22 #[.slice a1 n c1, .slice a2 n c2] w fun e w' => e = .returned (.bool (l1 == l2)) ∧ Fr [] w w' := by
  have N1 : Hid (l1.length = n) := n1
  have N2 : Hid (l2.length = n) := n2
  clear n1 n2
  go_enter Tryz.func22, Tryz.ntmps22
  go_wp2
  go_loopw [5] (fun i wr => ∃ j : Nat, j ≤ n ∧ i = .int .i64 j ∧ l1.take j = l2.take j ∧ Fr [] w wr) (fun i _ => n - (intOf i).toNat)
  case atStart => exact ⟨0, by omega, rfl, by simp, Fr.refl _ _⟩
  case round =>
    obtain ⟨j, hj, rfl, ht, fr⟩ := hrel
    have HT : Hid (l1.take j = l2.take j) := ht
    clear ht
    by_cases hlt : j < n
    · have hlt' : (j : Int) < (n : Int) := by omega
      have hj0 : (0 : Int) ≤ (j : Int) := by omega
      have g1 : j < l1.length := by rw [N1.out]; exact hlt
      have g2 : j < l2.length := by rw [N2.out]; exact hlt
      obtain ⟨b1, o1, e1, q1⟩ := (h1.kept fr (by simp)) j (.int .u8 l1[j].toNat) (by simp [arr, g1])
      obtain ⟨b2, o2, e2, q2⟩ := (h2.kept fr (by simp)) j (.int .u8 l2[j].toNat) (by simp [arr, g2])
      subst e1 e2
      by_cases heq : l1[j] = l2[j]
      · have HQ : Hid (l1[j] = l2[j]) := heq
        have hbe : ((l1[j].toNat : Int) == (l2[j].toNat : Int)) = true := by rw [heq]; simp
        clear heq
        generalize hx1 : (l1[j].toNat : Int) = x1 at q1 hbe
        generalize hx2 : (l2[j].toNat : Int) = x2 at q2 hbe
        clear hx1 hx2
        go_wp2
        go_region_held3 (fun w' => w'.cell? ⟨b1, o1 + j, none⟩ = some (.int .u8 x1) ∧ w'.cell? ⟨b2, o2 + j, none⟩ = some (.int .u8 x2)) (go_keep) (fail)
        go_wp2
        refine ⟨⟨j + 1, by omega, by go_num, ?_, fr.drew⟩, by simp [intOf]; omega⟩
        rw [List.take_succ_eq_append_getElem g1, List.take_succ_eq_append_getElem g2, HT.out, HQ.out]
      · have hbe : ((l1[j].toNat : Int) == (l2[j].toNat : Int)) = false := by
          rw [beq_eq_false_iff_ne]
          intro e
          exact heq (UInt8.toNat_inj.1 (by omega))
        have HN : Hid ((l1 == l2) = false) := by
          show (l1 == l2) = false
          rw [beq_eq_false_iff_ne]
          intro e
          exact heq (by subst e; rfl)
        clear heq
        generalize hx1 : (l1[j].toNat : Int) = x1 at q1 hbe
        generalize hx2 : (l2[j].toNat : Int) = x2 at q2 hbe
        clear hx1 hx2
        go_wp2
        go_region_held3 (fun w' => w'.cell? ⟨b1, o1 + j, none⟩ = some (.int .u8 x1) ∧ w'.cell? ⟨b2, o2 + j, none⟩ = some (.int .u8 x2)) (go_keep) (fail)
        go_wp2
        go_ret
        exact ⟨by rw [HN.out]; rfl, fr.drew⟩
    · obtain rfl : j = n := by omega
      have HN : Hid ((l1 == l2) = true) := by
        show (l1 == l2) = true
        rw [beq_iff_eq]
        have := HT.out
        rw [List.take_of_length_le (by rw [N1.out]; omega), List.take_of_length_le (by rw [N2.out]; omega)] at this
        exact this
      go_wp2
      go_ret
      exact ⟨by rw [HN.out]; rfl, fr⟩
def bysL (n : Nat) : List UInt8 := (List.range n).map fun i => UInt8.ofNat (i + i / 256)
def bysP (n i : Nat) : List UInt8 := bysL i ++ List.replicate (n - i) 0
theorem bysL_length (n : Nat) : (bysL n).length = n := by simp [bysL]
theorem bysP_set (n i : Nat) (h : i < n) : (bysP n i).set i (UInt8.ofNat (i + i / 256)) = bysP n (i + 1) := by
  unfold bysP
  rw [List.set_append_right _ _ (by rw [bysL_length]; exact Nat.le_refl _), bysL_length, Nat.sub_self]
  obtain ⟨k, hk⟩ : ∃ k, n - i = k + 1 := ⟨n - i - 1, by omega⟩
  have e : n - (i + 1) = k := by omega
  rw [hk, e, List.replicate_succ, List.set_cons_zero]
  unfold bysL
  rw [List.range_succ, List.map_append, List.append_assoc]
  rfl
set_option maxHeartbeats 2000000 in
set_option maxRecDepth 100000 in
theorem nbys_any (w : World) (n : Nat) (hn : n ≤ 65536) : Calls Tryz.prog 18 #[.int .i64 (n : Int)] w fun e w' => ∃ g, e = .returned (.slice (some ⟨g, 0, none⟩) n n) ∧ Hid (Blk w' g (bysL n) ∧ w.heap.size ≤ g ∧ Fr [] w w') := by
  go_enter Tryz.func18, Tryz.ntmps18
  go_wp2_with (refine wp_make rfl _ _ rfl n rfl rfl (by omega) ?_; intro w1 g hg b1 f1)
  have H0 := hidI (show Blk w1 g (bysP n 0) ∧ Fr [] w w1 from ⟨by unfold bysP bysL; simpa using b1, f1⟩)
  have HG := hidI hg
  clear b1 f1 hg
  go_loopw [4] (fun s4 wr => ∃ i : Nat, s4 = .int .i64 (i : Int) ∧ i ≤ n ∧ Hid (Blk wr g (bysP n i) ∧ Fr [] w wr)) (fun s4 _ => n - (intOf s4).toNat)
  case atStart => exact ⟨0, rfl, by omega, H0⟩
  case round =>
    obtain ⟨i, rfl, hi, X⟩ := hrel
    by_cases hin : i < n
    · have hin' : (i : Int) < (n : Int) := by omega
      have hl : (bysP n i).length = n := by
        unfold bysP
        rw [List.length_append, bysL_length, List.length_replicate]
        omega
      have ci := X.out.1.cell i (by omega)
      have gi := frozen_of_row wr g i _ _ X.out.1
      have hb := X.out.1.set i (UInt8.ofNat (i + i / 256))
      rw [bysP_set n i hin] at hb
      have e1 : (((UInt8.ofNat (i + i / 256)).toNat : Nat) : Int) = ((i : Int) + (i : Int) / 256) % 256 := by
        rw [UInt8.toNat_ofNat']
        omega
      rw [e1] at hb
      have HX := hidI (And.intro X.out.2 hb)
      clear hb e1 hl
      go_wp2_with fail
      exact ⟨⟨i + 1, by go_num, by omega, hidI ⟨HX.out.2, HX.out.1.setCell _ _ (fun hh => absurd hh (by have := HG.out; show ¬ g < w.heap.size; omega))⟩⟩, by simp [intOf]; omega⟩
    · obtain rfl : i = n := by omega
      have hin' : ¬ ((i : Int) < (i : Int)) := by omega
      go_wp2_with fail
      go_ret
      refine ⟨g, rfl, hidI ⟨?_, HG.out, X.out.2⟩⟩
      have := X.out.1
      unfold bysP at this
      simpa using this
end Go.Proofs.YthajipigppndgaaGreat

namespace Go.Proofs.YthajipigppndgaaGreat
open Go.RowKit Go.Maps
set_option maxHeartbeats 2000000 in
set_option maxRecDepth 100000 in
theorem ncopy0 (w : World) (sb : Nat) (h : w.heap[sb]? = some (.cells #[.slice none 0 0] 58)) : Calls Tryz.prog 54 #[.pointer (some ⟨sb, 0, none⟩)] w fun e w' => ∃ g v, e = .returned (.pointer (some ⟨g, 0, none⟩)) ∧ Hid (w'.heap[g]? = some (.cells #[v] 58) ∧ w.heap.size ≤ g ∧ Fr [] w w') := by
  have c0 : w.cell? ⟨sb, 0, none⟩ = some (.slice none 0 0) := cell_of_row w sb 0 _ _ _ h
  have f1 : Fr [] w (w.alloc (.cells #[] 68)) := (Fr.refl [] w).alloc _
  have c1 : (w.alloc (.cells #[] 68)).cell? ⟨sb, 0, none⟩ = some (.slice none 0 0) := cell_of_row _ sb 0 _ _ _ (f1.same (by simp) h)
  have OW : (w.alloc (.cells #[] 68)).ownsRow w.heap.size 68 4 (.slice (some ⟨w.heap.size, 0, none⟩) 0 0) 0 [] := ⟨rfl, .inr ⟨w.heap.size, 0, #[], rfl, Nat.le_refl _, heap_alloc_new w _, Nat.le_refl _, by unfold maxLen; omega, rfl, rfl⟩⟩
  obtain ⟨i, hi⟩ : ∃ i, Tryz.prog.info? 68 = some i := by
    have h : (Tryz.prog.info? 68).isSome = true := by kernel_rfl
    exact Option.isSome_iff_exists.1 h
  clear h
  go_enter Tryz.func54, Tryz.ntmps54
  go_wp2_with (refine wpList_append_own_none rfl _ _ 56 rfl w.heap.size 68 i 4 Tryz.underlying56 hi _ 0 [] rfl OW rfl ?_)
  go_ret
  exact ⟨_, _, rfl, hidI ⟨by
    have := heap_alloc_new (w.alloc (.cells #[] 68)) (.cells #[.slice (some ⟨w.heap.size, 0, none⟩) 0 0] 58)
    rwa [World.size_alloc] at this, by simp, f1.alloc _⟩⟩
set_option maxHeartbeats 2000000 in
set_option maxRecDepth 100000 in
theorem nend_ok {w0 w : World} {bp : Nat} {K : KL} {nb : Nat} {m : Mst} {U : Pages} {b : Bk} {H : List Ch} {V : Pages} {rg s1 : Nat} {v2 : Value} (h : In w0 w bp ((rg, .cells #[.pointer (some ⟨bp, 0, none⟩), .pointer (some ⟨s1, 0, none⟩), v2] 51) :: (s1, .cells #[.slice none 0 0] 58) :: K) nb m U b H V) (hrg : w0.heap.size ≤ rg) (hne : ∀ p ∈ ((s1, .cells #[.slice none 0 0] 58) :: K : KL), p.1 ≠ rg) (hP : phN b H ≤ 380000) (hs : m.seq ≤ 1000000) :
    Calls Tryz.prog 19 #[.pointer (some ⟨rg, 0, none⟩), .bool false] w fun e w' => e = .returned (.bool true) ∧ ∃ b' m' v3, Hid (In w0 w' bp ((rg, .cells #[.pointer (some ⟨bp, 0, none⟩), .pointer (some ⟨s1, 0, none⟩), v3] 51) :: (s1, .cells #[.slice none 0 0] 58) :: K) nb m' V b' [] V ∧ phN b' [] = (b.x.y.E : Int) + 35 ∧ (b'.x.y.A = b.x.y.A ∨ (b'.x.y.A : Int) = (b.x.y.E : Int) + 35) ∧ m'.seq ≤ m.seq + 1 ∧ b'.x.pages = b.x.pages) := by
  have CX := in_com h hP
  have r0 := (h.ab.kp _ (List.mem_cons_self ..)).1
  have c0 : w.cell? ⟨rg, 0, none⟩ = some (.pointer (some ⟨bp, 0, none⟩)) := cell_of_row w rg 0 _ _ _ r0
  have HS := hidI hs
  have HR := hidI (And.intro hrg hne)
  clear r0 h hrg hne
  go_enter Tryz.func19, Tryz.ntmps19
  go_upto_region 8 with (first
    | (go_at_call 17
       refine CX.mono ?_
       rintro e w1 ⟨rfl, b1, P⟩
       have r1 := (P.out.1.ab.kp _ (List.mem_cons_self ..)).1
       have s1' := (P.out.1.ab.kp (s1, .cells #[.slice none 0 0] 58) (by simp)).1
       have c1 : w1.cell? ⟨rg, 1, none⟩ = some (.pointer (some ⟨s1, 0, none⟩)) := cell_of_row w1 rg 1 _ _ _ r1
       have YX := ncopy0 w1 s1 s1'
       have HR1 := hidI r1
       clear r1 s1' CX)
    | (go_at_call 54
       refine YX.mono ?_
       rintro e w2 ⟨s2, sv, rfl, S⟩
       have r2 := S.out.2.2.same (by simp) HR1.out
       have c2 : w2.cell? ⟨rg, 2, none⟩ = some v2 := cell_of_row w2 rg 2 _ _ _ r2
       have g2 := frozen_of_row w2 rg 2 _ _ r2
       have HR2 := hidI r2
       clear r2 YX))
  have I2 := P.out.1.quiet S.out.2.2
  have k2 := I2.ab.kp _ (List.mem_cons_self ..)
  have aw := I2.ab.bk.awayT k2.1 (by decide) (by decide)
  have hst := heap_setCell_same w2 rg 2 _ _ (.pointer (some ⟨s2, 0, none⟩)) HR2.out
  have A3 := ((I2.ab.less (K' := ((s1, .cells #[.slice none 0 0] 58) :: K : KL)) (fun p hp => List.mem_cons_of_mem _ hp)).put ((Fr.refl [rg] w2).setCell ⟨rg, 2, none⟩ (.pointer (some ⟨s2, 0, none⟩)) (by simp)) aw.1 k2.2 aw.2 HR.out.1 HR.out.2).add hst k2.2
  obtain ⟨w3, hw3⟩ : ∃ w3, w2.setCell ⟨rg, 2, none⟩ (.pointer (some ⟨s2, 0, none⟩)) = w3 := ⟨_, rfl⟩
  rw [hw3] at A3 hst ⊢
  have c3 : w3.cell? ⟨rg, 0, none⟩ = some (.pointer (some ⟨bp, 0, none⟩)) := cell_of_row w3 rg 0 _ _ _ hst
  have BX := idl_beg (I2.on A3) HS.out
  have HP := hidI P.out
  clear A3 hst k2 aw I2 P S c1 c2 g2 hw3
  go_wp2_with (first
    | (go_at_call 21
       refine BX.mono ?_
       rintro e w4 ⟨rfl, b4, m4, Y⟩))
  go_ret
  refine ⟨rfl, b4, m4, .pointer (some ⟨s2, 0, none⟩), hidI ⟨Y.out.1, ?_, ?_, Y.out.2.1.s1, ?_⟩⟩
  · have h1 := Y.out.2.2.1
    have h2 := HP.out.2.2.1
    omega
  · rcases Y.out.2.2.2.1 with e | e
    · exact .inl (e.trans HP.out.2.2.2)
    · refine .inr ?_
      have h2 := HP.out.2.2.1
      omega
  · exact Y.out.2.1.pages.trans HP.out.2.1.pages
end Go.Proofs.YthajipigppndgaaGreat

namespace Go.Proofs.YthajipigppndgaaGreat
open Go.RowKit Go.Maps
structure Rig (w0 w : World) (rg bp : Nat) (b : Bk) (m : Mst) (H : List Ch) (V : Pages) (e : Nat) : Prop where
  i : ∃ v1 v2 U, In w0 w bp [(rg, .cells #[.pointer (some ⟨bp, 0, none⟩), v1, v2] 51)] 124 m U b H V
  pages : b.x.pages = 60
  ph : phN b H ≤ e
  A : (b.x.y.A : Int) ≤ 2000 ∧ 0 ≤ (b.x.y.A : Int)
  seq : m.seq ≤ 100
set_option maxHeartbeats 4000000 in
set_option maxRecDepth 100000 in
theorem nbegin_ok (w : World) : Calls Tryz.prog 8 #[.int .i64 100] w fun e w' => ∃ rg, e = .returned (.tuple #[.pointer (some ⟨rg, 0, none⟩), .bool true]) ∧ Hid (w.heap.size ≤ rg ∧ ∃ bp b m, Rig w w' rg bp b m [] (fmtV 60 Z0) 800) := by
  obtain ⟨nb, h0, h1, h2, BX⟩ := book_ok w 100 3000 (by decide) (by omega) (by omega)
  obtain rfl : nb = 124 := by omega
  clear h0 h1 h2
  go_enter Tryz.func8, Tryz.ntmps8
  go_wp2_with fail
  refine BX.mono ?_
  rintro e w1 ⟨bp, rfl, P1⟩
  obtain ⟨b, HB⟩ : ∃ b, Hid (Ab w w1 bp b [] ∧ Fresh b 124 8 3 m321) := by
    obtain ⟨b, h⟩ := P1.out
    exact ⟨b, hidI h⟩
  have BX := hidI (idl_beg (⟨HB.out.1, HB.out.2.env (by omega) (by omega), HB.out.2.idle (by omega) (by omega)⟩ : Idl w w1 bp [] 124 m321 b Z0) (by decide))
  clear P1
  go_wp2_with fail
  refine BX.out.mono ?_
  rintro e w2 ⟨rfl, b1, m1, P2⟩
  have hpg : b1.x.pages = 60 := by
    have h1 := P2.out.1.env.pages
    omega
  have hA : b1.x.y.A = 0 := by
    have h1 := HB.out.2.A
    have h2 := HB.out.2.E
    rcases P2.out.2.2.2.1 with e | e <;> omega
  have hph : phN b1 [] = 0 := by
    rw [P2.out.2.2.1, HB.out.2.E]
    rfl
  have FX := sformat_in P2.out.1 176 (by rw [hpg]; decide) (fun i _ _ => Z0_byte 0 i) (by rw [hph]; decide)
  rw [hpg, show mapsN 60 = 1 from rfl] at FX
  have FX' := hidI FX
  have HPG := hidI (And.intro hpg (And.intro hA hph))
  clear FX hpg hA hph BX
  go_wp2_with fail
  refine FX'.out.mono ?_
  rintro e w3 ⟨r, rfl, P3⟩
  rcases P3.out with ⟨rfl, hf, _⟩ | ⟨rfl, b3, H3, D3⟩
  · exfalso
    have h1 := P2.out.1.capn
    rw [HPG.out.2.2, h1, HPG.out.2.1] at hf
    omega
  · have f4 : Fr [] w3 (w3.alloc (.cells #[.slice none 0 0] 58)) := (Fr.refl [] w3).alloc _
    have z4 := heap_alloc_new w3 (.cells #[.slice none 0 0] 58)
    have I4 := D3.i.quiet f4
    have I4' := I4.on (I4.ab.add z4 (D3.i.ab.fresh (Nat.le_refl _)).2.1)
    have z5 := heap_alloc_new (w3.alloc (.cells #[.slice none 0 0] 58)) (.cells #[.pointer (some ⟨bp, 0, none⟩), .pointer (some ⟨w3.heap.size, 0, none⟩), .pointer (some ⟨w3.heap.size, 0, none⟩)] 51)
    have I5 := I4'.quiet ((Fr.refl [] (w3.alloc (.cells #[.slice none 0 0] 58))).alloc (.cells #[.pointer (some ⟨bp, 0, none⟩), .pointer (some ⟨w3.heap.size, 0, none⟩), .pointer (some ⟨w3.heap.size, 0, none⟩)] 51))
    have I5' := I5.on (I5.ab.add z5 (I4'.ab.fresh (Nat.le_refl _)).2.1)
    rw [World.size_alloc] at I5'
    have hph3 := D3.ph
    rw [HPG.out.2.2] at hph3
    have EX := nend_ok I5' (by have := D3.i.ab.fr.size; omega) (fun p hp => by
      rw [List.mem_singleton.1 hp]
      show w3.heap.size ≠ w3.heap.size + 1
      omega) (by omega) (by have h1 := P2.out.2.1.s1; have h2 : m321.seq ≤ 3 := by decide
                            omega)
    have HD := hidI (And.intro D3 hph3)
    have hsz : w.heap.size ≤ w3.heap.size := D3.i.ab.fr.size
    have HSZ := hidI hsz
    clear D3 hph3 f4 z4 I4 I4' z5 I5 I5' hsz P3
    go_wp2_with (first
      | (go_at_call 19
         refine EX.mono ?_
         rintro e w6 ⟨rfl, b6, m6, v6, Y⟩))
    go_ret2
    refine ⟨_, rfl, hidI ⟨by have := HSZ.out; omega, bp, b6, m6, ⟨_, _, _, Y.out.1.on (Y.out.1.ab.less (fun p hp => by rw [List.mem_singleton.1 hp]; exact List.mem_cons_self ..))⟩, ?_, ?_, ?_, ?_⟩⟩
    · rw [Y.out.2.2.2.2, HD.out.1.tr.pages]
      exact HPG.out.1
    · have h1 := Y.out.2.1
      have h2 := HD.out.2
      have h3 := HD.out.1.i.E
      show phN b6 [] ≤ ((800 : Nat) : Int)
      omega
    · have h1 := Y.out.2.2.1
      have h2 := HD.out.2
      have h3 := HD.out.1.i.E
      have h4 := HD.out.1.tr.A
      have h5 := HPG.out.2.1
      omega
    · have h1 := Y.out.2.2.2.1
      have h2 := P2.out.2.1.s1
      have h3 : m321.seq ≤ 3 := by decide
      omega
end Go.Proofs.YthajipigppndgaaGreat


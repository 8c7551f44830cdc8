/-
  The law's awake: a change is made, another one undone.
-/
import Derived.Test.YtopaeomjndblkaaGreatX24Z
namespace Go.Proofs.YtopaeomjndblkaaGreat
open Go.RowKit Go.Maps
open Pg (SpE diffS byteAt)

def p57 : List UInt8 := (zs 512).set 5 7
theorem p57_length : p57.length = 512 := by simp [p57, zs_length]
theorem p57_same (k : Nat) (h : k < 5 ∨ 6 ≤ k) : byteAt (zs 512) k = byteAt p57 k := by
  unfold byteAt p57
  rw [List.getD_eq_getElem?_getD, List.getD_eq_getElem?_getD, List.getElem?_set_ne (by omega)]
theorem p57_at : p57[5]? = some 7 := by
  unfold p57
  rw [List.getElem?_set_self (by rw [zs_length]; omega)]
theorem zs_at5 : (zs 512)[5]? = some 0 := by
  unfold zs
  rw [List.getElem?_replicate, if_pos (by omega)]
theorem Blk.at5 {w : World} {g : Nat} {l : List UInt8} {x : UInt8} (h : Blk w g l) {j : Nat} (hj : l[j]? = some x) : w.cell? ⟨g, j, none⟩ = some (.int .u8 x.toNat) := by
  obtain ⟨hl, e⟩ := List.getElem?_eq_some_iff.1 hj
  have h1 : w.heap[g]? = some (.cells (arr l) 5) := h
  rw [cell_of_row w g j _ _ _ h1, arr_at, hj]
  rfl
theorem InTx.eb {b : Bk} {H : List Ch} {V : Pages} (tx : InTx b H V) {nb : Nat} {m : Mst} (en : Env b nb m) (hn : nb ≤ 400) {a : Nat} (hA : b.x.y.A ≤ a) : b.x.y.E ≤ a + 82000 := by
  have h1 := tx.Ele
  have h2 := en.count
  have h3 := keptOf_nonneg H
  omega
theorem BegTo.ab {w w' : World} {b b' : Bk} {nb : Nat} {m m' : Mst} {V : Pages} (h : BegTo w w' b nb m V b' m') {a : Nat} (h1 : b.x.y.A ≤ a) (h2 : b.x.y.E ≤ a) : b'.x.y.A ≤ a := by
  rcases h.A with e | e <;> omega
def V0 : Pages := fun _ => zs 512
def V1 : Pages := setPg V0 0 p57
set_option maxHeartbeats 4000000 in
set_option maxRecDepth 100000 in
theorem cawake_any (w : World) : Calls Tryz.prog 22 #[] w fun e w' => e = .returned (.bool true) ∧ Fr [] w w' := by
  go_enter Tryz.func22, Tryz.ntmps22
  go_wp2_with fail
  refine (cbegin_ok w 24 8 (by omega) (by omega) (by omega) (by omega)).mono ?_
  rintro e w1 ⟨rg, b0, rfl, R1, fr0, new1, f1⟩
  obtain ⟨bp, hbp⟩ : ∃ bp, b0.bp = bp := ⟨_, rfl⟩
  have rbox := R1.box
  unfold CBox at rbox
  rw [hbp] at rbox
  have aw := R1.bk.away rbox (by decide) (by decide) (by decide) (by decide)
  have A1 := hidI (⟨R1.bk, f1, fun k hk => new1 k (by rcases List.mem_cons.1 hk with e | e <;> simp [e]), hbp, fun p hp => by simp at hp; subst hp; exact ⟨rbox, aw.2.1⟩⟩ : Ab w w1 bp b0 [(rg, .cells #[.pointer (some ⟨b0.x.y.d, 0, none⟩), .pointer (some ⟨b0.x.y.p, 0, none⟩), .pointer (some ⟨b0.x.pp, 0, none⟩), .pointer (some ⟨bp, 0, none⟩)] 62)])
  obtain ⟨K, hK⟩ : ∃ K : List (Nat × Obj), K = [(rg, .cells #[.pointer (some ⟨b0.x.y.d, 0, none⟩), .pointer (some ⟨b0.x.y.p, 0, none⟩), .pointer (some ⟨b0.x.pp, 0, none⟩), .pointer (some ⟨bp, 0, none⟩)] 62)] := ⟨_, rfl⟩
  rw [← hK] at A1
  have KC : Hid (∀ w' b', Ab w w' bp b' K → w'.cell? ⟨rg, 3, none⟩ = some (.pointer (some ⟨bp, 0, none⟩))) := hidI (fun w' b' h => cell_of_row w' rg 3 _ _ _ (h.kp _ (by rw [hK]; exact List.mem_cons_self)).1)
  have KN : Hid (∀ (g w' : Nat) , True) := hidI (fun _ _ => trivial)
  have HKr : Hid (∀ p ∈ K, p.1 = rg) := hidI (fun p hp => by rw [hK] at hp; simp at hp; rw [hp])
  have hrg : rg < w1.heap.size := R1.lt
  have FE := hidI (fr0.env (by omega) (by omega))
  have FI : Hid (Idle b0 V0) := hidI (fr0.idle (by omega) (by omega))
  have hE0 := fr0.E
  have hA0 := fr0.A
  clear R1 fr0 new1 hK rbox aw hbp KN
  have k1 := KC.out _ _ A1.out
  go_wp2_with fail
  refine (ab_beg A1.out FE.out FI.out (by decide)).mono ?_
  rintro e w2 ⟨rfl, b1, m1, H2⟩
  have k2 := KC.out _ _ H2.out.1
  go_wp2_with fail
  refine (ab_page H2.out.1 H2.out.2.tx.sh (page := 0) H2.out.1.bk.po.p1).mono ?_
  rintro e w3 ⟨g, b2, rfl, H3⟩
  have k3 := KC.out _ _ H3.out.1
  have hb3 : Blk w3 g (zs 512) := H3.out.2.blk
  have hg3 : w2.heap.size ≤ g := H3.out.2.new
  have hw2 : w1.heap.size ≤ w2.heap.size := H2.out.2.st.fr.size
  have c5 : w3.cell? ⟨g, 5, none⟩ = some (.int .u8 0) := hb3.at5 zs_at5
  have z5 := hb3.frozen 5
  have b4 : Blk (w3.setCell ⟨g, 5, none⟩ (.int .u8 7)) g p57 := hb3.set 5 7
  have f4 := fr_set w3 g 5 (.int .u8 7)
  have A4 := hidI (H3.out.1.blk hb3 f4 H3.out.2.out (Nat.le_trans (Nat.le_trans f1.size hw2) hg3) (fun p hp => by rw [HKr.out p hp]; omega))
  have EN2 := hidI (H2.out.2.env.tr H3.out.2.tr)
  have TX2 := hidI (H3.out.2.tx _ _ H2.out.2.tx)
  have hA1 := H2.out.2.ab (a := 0) (by omega) (by omega)
  have hA2 : b2.x.y.A ≤ 0 := by rw [H3.out.2.tr.A]; exact hA1
  have hs1 : m1.seq ≤ 2 := H2.out.2.s1
  have hr2 : (2448 : Int) ≤ b2.room := by
    have h1 := H2.out.2.room
    have h2 := H2.out.2.env.count
    have h3 := H3.out.2.tr.rm H3.out.2.E
    omega
  have hgo : g ∉ b2.dp :: b2.x.own := H3.out.2.out
  go_wp2_with fail
  generalize w3.setCell ⟨g, 5, none⟩ (.int .u8 7) = w4 at b4 f4 A4 ⊢
  have k4 := KC.out _ _ A4.out
  have HP1 := hidI (ab_put1 (A4.out.quiet ((Fr.refl [] w4).drew)) EN2.out TX2.out (page := 0) A4.out.bk.po.p1 (g := g) (c := 512) p57_length (Nat.le_refl _) (b4.kept ((Fr.refl [] w4).drew) (by simp)).bytes hgo (by have := TX2.out.eb EN2.out (by omega) hA2; omega) (i := 5) (j := 6) (fun k _ h => p57_same k h) (by show (0 : Int) + 35 + 97 * 1 ≤ b2.room; omega))
  clear k1 k2 k3 c5 z5 hb3 b4 f4
  go_region_held3 (fun w' => w'.cell? ⟨rg, 3, none⟩ = some (.pointer (some ⟨bp, 0, none⟩))) (first | exact hk | exact k4) ((first
    | (go_at_call 31; (with_reducible show Calls Tryz.prog 31 #[_, _, Value.slice (some ⟨g, 0, none⟩) 512 512] _ _); refine HP1.out.mono ?_; rintro e w5 ⟨rfl, S1, b3, H1, H5⟩; have hk := KC.out _ _ H5.out.1)
    | (go_at_call 32; refine (ab_com H5.out.1 (H5.out.2.2.env EN2.out) H5.out.2.2.tx (by have := H5.out.2.2.tx.eb (H5.out.2.2.env EN2.out) (by omega) (a := 0) (by rw [H5.out.2.2.tr.A]; exact hA2); omega)).mono ?_; rintro e w6 ⟨rfl, b4, H6⟩; have hk := KC.out _ _ H6.out.1)
    | (go_at_call 30; refine (ab_beg H6.out.1 H6.out.2.env H6.out.2.idle (by omega)).mono ?_; rintro e w7 ⟨rfl, b5, m5, H7⟩; have hk := KC.out _ _ H7.out.1)
    | (refine op_make512 _ _ rfl rfl rfl ?_; intro w8 g8 hg8 hb8 f8; have A8 := hidI (H7.out.1.quiet f8); have hk := KC.out _ _ A8.out)
    | (go_at_call 31; refine (ab_put1 A8.out H7.out.2.env H7.out.2.tx (page := 0) A8.out.bk.po.p1 (g := g8) (c := 512) (zs_length 512) (Nat.le_refl _) hb8.bytes (fun hm => by have := A8.out.bk.lt g8 (by rcases List.mem_cons.1 hm with e | e <;> simp [e]); have := H7.out.1.bk.lt g8 (by rcases List.mem_cons.1 hm with e | e <;> simp [e]); omega) (by have h1 := H5.out.2.2.tx.eb (H5.out.2.2.env EN2.out) (by omega) (a := 0) (by rw [H5.out.2.2.tr.A]; exact hA2); have h2 := H6.out.2.E; have h3 := H7.out.2.E; omega) (i := 5) (j := 6) (fun k _ h => (p57_same k h).symm) (by show (0 : Int) + 35 + 97 * 1 ≤ b5.room; have h1 := H7.out.2.room; have h2 := H7.out.2.env.count; omega)).mono ?_; rintro e w9 ⟨rfl, S2, b6, H2', H9⟩; have hk := KC.out _ _ H9.out.1)))
  have EN9 := hidI (H9.out.2.2.env H7.out.2.env)
  go_wp2_with fail
  refine (ab_page H9.out.1 H9.out.2.2.tx.sh (page := 0) H9.out.1.bk.po.p1).mono ?_
  rintro e w10 ⟨g10, b7, rfl, H10⟩
  have k10 := KC.out _ _ H10.out.1
  have hb10 : Blk w10 g10 (zs 512) := H10.out.2.blk
  have c10 : w10.cell? ⟨g10, 5, none⟩ = some (.int .u8 0) := hb10.at5 zs_at5
  have EN10 := hidI (EN9.out.tr H10.out.2.tr)
  have TX10 := hidI (H10.out.2.tx _ _ H9.out.2.2.tx)
  have hA10 : b7.x.y.A ≤ 100000 := by
    have h1 := H5.out.2.2.tx.eb (H5.out.2.2.env EN2.out) (by omega) (a := 0) (by rw [H5.out.2.2.tr.A]; exact hA2)
    have h2 := H6.out.2.E
    have h3 := H7.out.2.ab (a := 100000) (by rw [H6.out.2.tr.A, H5.out.2.2.tr.A]; omega) (by omega)
    rw [H10.out.2.tr.A, H9.out.2.2.tr.A]
    exact h3
  clear hb10
  go_wp2_with fail
  refine (ab_abo H10.out.1 EN10.out TX10.out (by omega) (by omega)).mono ?_
  rintro e w11 ⟨rfl, b8, H11⟩
  have k11 := KC.out _ _ H11.out.1
  have SH11 : Hid (Shows b8.x (setPg V0 0 p57)) := hidI (by
    have h := H11.out.2.idle.sh
    rw [H9.out.2.2.un] at h
    exact h)
  clear c10 k10
  go_wp2_with fail
  refine (ab_page H11.out.1 SH11.out (page := 0) H11.out.1.bk.po.p1).mono ?_
  rintro e w12 ⟨g12, b9, rfl, H12⟩
  have k12 := KC.out _ _ H12.out.1
  have hb12 : Blk w12 g12 p57 := H12.out.2.blk
  have c12 : w12.cell? ⟨g12, 5, none⟩ = some (.int .u8 7) := hb12.at5 p57_at
  have t12 : b9.t = dl0 := by rw [H12.out.2.t]; exact H11.out.2.idle.t
  have HIN : Hid (Calls Tryz.prog 26 #[.pointer (some ⟨bp, 0, none⟩)] w12 fun e w' => e = .returned (.bool false) ∧ w' = w12) := hidI (by
    have h := bkin_any H12.out.1.bk.box H12.out.1.bk.dl
    rw [t12, H12.out.1.ebp] at h
    exact h)
  have HPG : Hid (Calls Tryz.prog 24 #[.pointer (some ⟨bp, 0, none⟩)] w12 fun e w' => e = .returned (.int .i64 10) ∧ w' = w12) := hidI (by
    have h := bpages_any H12.out.1.bk
    have h2 := (H11.out.2.env.tr H12.out.2.tr).pages
    rw [H12.out.1.ebp, h2] at h
    exact h)
  clear k11 hb12 t12
  go_wp2_with (first
    | (go_at_call 26; refine HIN.out.mono ?_; rintro e wz ⟨rfl, hz⟩; rw [hz]; clear hz)
    | (go_at_call 24; refine HPG.out.mono ?_; rintro e wz ⟨rfl, hz⟩; rw [hz]; clear hz))
  go_ret
  exact ⟨rfl, H12.out.1.fr⟩
end Go.Proofs.YtopaeomjndblkaaGreat


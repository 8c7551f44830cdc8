/-
  The document's own Get: how the record that the bytes would say is made, step by step.
-/
import Derived.Test.YticmjdblcomecaaQRefG
import Derived.Test.YticmjdblcomecaaQSame
import Derived.Deep.RegionHeld3
import Derived.Deep.Cut
import Derived.Deep.QuietTactic
namespace Go.Proofs.Yticmjdblcomecaa
open Go.RowKit Go.Maps

/-- What the document gets, wherever its lists lie. -/
def GetToW (w : World) (l : List UInt8) (e : Ending) (w' : World) : Prop :=
  (decR l = none ∧ e = .returned (.tuple #[.agg (recV (zeroR 0 0) zeroS), .int .i64 0, .int .i64 4]) ∧ Fr [] w w') ∨
  ∃ r n s, decR l = some (r, n) ∧ e = .returned (.tuple #[.agg (recV r s), .int .i64 (n : Int), .int .i64 0]) ∧ SpotsAt w' r s ∧ Fr [] w w'
theorem GetTo.weak {w : World} {l : List UInt8} {e : Ending} {w' : World} (h : GetTo w l e w') : GetToW w l e w' := by
  rcases h with h | ⟨r, n, s, h1, h2, h3, h4⟩
  · exact Or.inl h
  · exact Or.inr ⟨r, n, s, h1, h2, h3.spots, h4⟩

/-- The record and the place behind the first question. -/
def cand1 (l : List UInt8) : Rec × Nat := if numAt l 18 1 = 2 ∧ 25 ≤ sayN l then ({ candH l with next := toI (numAt l 35 8) }, 43) else (candH l, 35)
theorem candR_eq (l : List UInt8) : candR l = if numAt l 18 1 = 2 ∨ numAt l 18 1 = 1 then candSp l (cand1 l).2 (cand1 l).1 else (cand1 l).1 := by
  unfold candR cand1
  by_cases h2 : numAt l 18 1 = 2
  · by_cases h25 : 25 ≤ sayN l <;> simp [h2, h25]
  · by_cases h1 : numAt l 18 1 = 1 <;> simp [h2, h1]

theorem own_sl {w0 w : World} {v : Value} {n : Nat} {l : List UInt8} (h : Own w0 w v n (arr l).toList) (hl : l.length = n) : ∃ ad c, v = .slice ad n c ∧ BytesAt w ad l ∧ (ad = none → n = 0 ∧ c = 0) ∧ ∀ a, ad = some a → w0.heap.size ≤ a.block := by
  by_cases hn : 0 < n
  · obtain ⟨g, c, e, hb, hg, -⟩ := own_at h hn hl
    exact ⟨_, c, e, hb, fun e => (nomatch e), fun a e => by cases e; exact hg⟩
  · have h0 : n = 0 := by omega
    subst h0
    obtain rfl : l = [] := List.eq_nil_of_length_eq_zero hl
    rcases h.1.2 with ⟨rfl, _⟩ | ⟨g, cap, cur, rfl, hg, _⟩
    · exact ⟨none, 0, rfl, BytesAt.nil _ _, fun _ => ⟨rfl, rfl⟩, fun a e => (nomatch e)⟩
    · exact ⟨_, _, rfl, BytesAt.nil _ _, fun e => (nomatch e), fun a e => by cases e; exact hg⟩
theorem cut_atQ {w : World} {g o o' n c T m : Nat} {l : List UInt8} (hb : BytesAt w (some ⟨g, o, none⟩) l) (hn : n ≤ c) (hm : T + m ≤ n) (ho : Hid (c = T ∨ o' = o + T)) : BytesAt w (some ⟨g, o', none⟩) ((l.drop T).take m) := by
  rcases ho.out with e | rfl
  · have h0 : m = 0 := by omega
    subst h0
    simpa using BytesAt.nil w (some ⟨g, o', none⟩)
  · exact hb.sub T m
theorem candH_kind (l : List UInt8) : (candH l).kind = numAt l 18 1 := rfl
theorem cand1_facts (l : List UInt8) (h : 17 ≤ sayN l) : (cand1 l).1.kind = numAt l 18 1 ∧ (cand1 l).1.old = [] ∧ (cand1 l).1.new = [] ∧ (cand1 l).2 ≤ 43 ∧ 35 ≤ (cand1 l).2 ∧ (cand1 l).2 ≤ 18 + sayN l := by
  unfold cand1
  split
  · rename_i hh
    exact ⟨rfl, rfl, rfl, by simp, by simp, by have := hh.2; dsimp only; omega⟩
  · exact ⟨rfl, rfl, rfl, by simp, by simp, by dsimp only; omega⟩
theorem num_one (l : List UInt8) (i : Nat) (h : i < l.length) : numAt l i 1 = l[i].toNat := by
  unfold numAt
  rw [show (l.drop i).take 1 = [l[i]] by rw [List.drop_eq_getElem_cons h]; rfl]
  simp [valL]
theorem cand_new (l : List UInt8) (h : l.length ≤ 1000000) : (candR l).new.length ≤ 1000000 := by
  have h0 : (candH l).new.length ≤ 1000000 := by simp [candH]
  have key : ∀ a (r : Rec), r.new.length ≤ 1000000 → (candSp l a r).new.length ≤ 1000000 := by
    intro a r hr
    unfold candSp
    split
    · exact hr
    split
    · dsimp only; rw [List.length_take, List.length_drop]; omega
    split
    · dsimp only; rw [List.length_take, List.length_drop]; omega
    · exact hr
  unfold candR
  split
  · split
    · exact key _ _ h0
    · exact key _ _ h0
  · split
    · exact key _ _ h0
    · exact h0
theorem spots_none (w : World) (r : Rec) (h1 : r.old = []) (h2 : r.new = []) : SpotsAt w r zeroS := by
  refine ⟨?_, ?_, fun _ => ⟨by rw [h1]; rfl, rfl⟩, fun _ => ⟨by rw [h2]; rfl, rfl⟩⟩
  · rw [h1]; exact BytesAt.nil _ _
  · rw [h2]; exact BytesAt.nil _ _
/-- What is there while the record is made: its box, the box of the answer. -/
structure Mk (w wx : World) (b : Nat) (r : Rec) (s : Spots) : Prop where
  box : RBox wx b r s
  res : RBox wx w.heap.size (zeroR 0 0) zeroS
  new : w.heap.size < b
  sp : SpotsAt wx r s
  fr : Fr [] w wx
  far : ∀ a, s.a1 = some a ∨ s.a2 = some a → b < a.block
theorem Mk.lt {w wx : World} {b : Nat} {r : Rec} {s : Spots} (h : Mk w wx b r s) : b < wx.heap.size := h.box.lt
theorem Mk.kept {w wx wy : World} {b : Nat} {r : Rec} {s : Spots} (h : Mk w wx b r s) (f : Fr [] wx wy) : Mk w wy b r s :=
  ⟨h.box.kept f (by simp), h.res.kept f (by simp), h.new, h.sp.kept f, h.fr.trans f, h.far⟩
theorem Mk.sets {w wx : World} {b : Nat} {r : Rec} {s : Spots} (h : Mk w wx b r s) (j : Nat) (v : Value) :
    RBox (wx.setCell ⟨b, j, none⟩ v) w.heap.size (zeroR 0 0) zeroS ∧ SpotsAt (wx.setCell ⟨b, j, none⟩ v) r s ∧ Fr [] w (wx.setCell ⟨b, j, none⟩ v) := by
  have fs := fr_set wx b j v
  have hn := h.new
  refine ⟨h.res.kept fs (by simp; omega), ⟨h.sp.b1.kept fs ?_, h.sp.b2.kept fs ?_, h.sp.n1, h.sp.n2⟩, h.fr.then fs (fun i hi hm => by simp at hm; omega)⟩
  · intro b' off e
    have := h.far _ (Or.inl e)
    dsimp only at this
    simp; omega
  · intro b' off e
    have := h.far _ (Or.inr e)
    dsimp only at this
    simp; omega
theorem Mk.set5 {w wx : World} {b : Nat} {r : Rec} {s : Spots} (h : Mk w wx b r s) (x : Int) : Mk w (wx.setCell ⟨b, 5, none⟩ (.int .i64 x)) b { r with next := x } s :=
  ⟨h.box.s5 x, (h.sets _ _).1, h.new, ⟨(h.sets _ _).2.1.b1, (h.sets _ _).2.1.b2, h.sp.n1, h.sp.n2⟩, (h.sets _ _).2.2, h.far⟩
theorem Mk.set6 {w wx : World} {b : Nat} {r : Rec} {s : Spots} (h : Mk w wx b r s) (x : Int) : Mk w (wx.setCell ⟨b, 6, none⟩ (.int .i64 x)) b { r with block := x } s :=
  ⟨h.box.s6 x, (h.sets _ _).1, h.new, ⟨(h.sets _ _).2.1.b1, (h.sets _ _).2.1.b2, h.sp.n1, h.sp.n2⟩, (h.sets _ _).2.2, h.far⟩
theorem Mk.set7 {w wx : World} {b : Nat} {r : Rec} {s : Spots} (h : Mk w wx b r s) (x : Int) : Mk w (wx.setCell ⟨b, 7, none⟩ (.int .i64 x)) b { r with off := x } s :=
  ⟨h.box.s7 x, (h.sets _ _).1, h.new, ⟨(h.sets _ _).2.1.b1, (h.sets _ _).2.1.b2, h.sp.n1, h.sp.n2⟩, (h.sets _ _).2.2, h.far⟩
theorem Mk.set8 {w wx : World} {b : Nat} {r : Rec} {s : Spots} (h : Mk w wx b r s) (ad : Option Addr) (l : List UInt8) (n c : Nat) (hl : l.length = n) (hb : BytesAt wx ad l) (hz : ad = none → n = 0 ∧ c = 0) (hf : ∀ a, ad = some a → b < a.block) :
    Mk w (wx.setCell ⟨b, 8, none⟩ (.slice ad n c)) b { r with old := l } { s with a1 := ad, c1 := c } :=
  ⟨h.box.t8 ad l n c hl, (h.sets _ _).1, h.new, ⟨hb.kept (fr_set wx b 8 _) (fun b' off e => by have := hf _ e; dsimp only at this; simp; omega), (h.sets _ _).2.1.b2, fun e => by rw [hl]; exact hz e, h.sp.n2⟩, (h.sets _ _).2.2, fun a e => e.elim (hf a) (fun e => h.far a (Or.inr e))⟩
theorem Mk.set9 {w wx : World} {b : Nat} {r : Rec} {s : Spots} (h : Mk w wx b r s) (ad : Option Addr) (l : List UInt8) (n c : Nat) (hl : l.length = n) (hb : BytesAt wx ad l) (hz : ad = none → n = 0 ∧ c = 0) (hf : ∀ a, ad = some a → b < a.block) :
    Mk w (wx.setCell ⟨b, 9, none⟩ (.slice ad n c)) b { r with new := l } { s with a2 := ad, c2 := c } :=
  ⟨h.box.t9 ad l n c hl, (h.sets _ _).1, h.new, ⟨(h.sets _ _).2.1.b1, hb.kept (fr_set wx b 9 _) (fun b' off e => by have := hf _ e; dsimp only at this; simp; omega), h.sp.n1, fun e => by rw [hl]; exact hz e⟩, (h.sets _ _).2.2, fun a e => e.elim (fun e => h.far a (Or.inl e)) (hf a)⟩
theorem small_num (l : List UInt8) (i k : Nat) (hk : k ≤ 4) (h : i + k ≤ l.length) : wrap64 (numAt l i k : Nat) = (numAt l i k : Int) ∧ numAt l i k < 256 ^ k := by
  have h1 := val_cut_lt l i k h
  have h2 : numAt l i k < 256 ^ k := h1
  have h3 : (256 : Nat) ^ k ≤ 256 ^ 4 := Nat.pow_le_pow_right (by omega) hk
  refine ⟨?_, h2⟩
  unfold wrap64
  omega

set_option maxHeartbeats 4000000 in
set_option maxRecDepth 100000 in
theorem rGet_main (w : World) (ad : Option Addr) (n c : Nat) (l : List UInt8) (hl : l.length = n) (hc : n ≤ c) (hn : n ≤ 100000) (hb : BytesAt w ad l) (h8 : 35 ≤ n) (hN1 : 17 ≤ sayN l) (hN2 : 18 + sayN l ≤ n) :
    Calls Try.prog 12 #[.slice ad n c] w fun e w' => GetToW w l e w' := by
  have HL : Hid (l.length = n) := hl
  have h8' : ¬ (n : Int) < 35 := by omega
  have hN := say_lt (l := l) (by omega)
  obtain ⟨V, HV⟩ : ∃ V : Int → Int → Int, Hid (∀ A K : Int, V A K = wrap64 (numAt l A.toNat K.toNat : Nat)) := ⟨_, hidI fun _ _ => rfl⟩
  obtain ⟨N, HN⟩ : ∃ N, Hid (sayN l = N) := ⟨_, rfl⟩
  have ew : V 12 2 = (N : Int) := by rw [HV.out, ← HN.out]; exact wrap_small _ hN
  rw [HN.out] at hN hN1 hN2
  have hw : IntKind.i64.wrap (18 + (N : Int)) = 18 + (N : Int) := by simp [IntKind.wrap, IntKind.signed, IntKind.bits]; omega
  have hq' : ¬ (N : Int) < 17 := by omega
  have hq2 : ¬ (n : Int) < 18 + (N : Int) := by omega
  have g18 : 18 < l.length := by omega
  have hi18 : (18 : Int) < n := by omega
  obtain ⟨b1, o1, e1, q1⟩ := hb 18 (.int .u8 l[18].toNat) (by simp [arr, g18])
  subst e1
  obtain ⟨kd, HK⟩ : ∃ x : Nat, Hid (l[18].toNat = x) := ⟨_, hidI rfl⟩
  rw [HK.out] at q1
  have hG : ∀ (A K : Int) (w' : World), Fr [] w w' → 0 ≤ A → 0 ≤ K → K ≤ 8 → A + K ≤ n → Calls Try.prog 48 #[.slice (some ⟨b1, o1, none⟩) n c, .int .i64 A, .int .i64 K] w' fun e w'' => e = .returned (.int .i64 (V A K)) ∧ w'' = w' := by
    intro A K w' f h1 h2 h3 h4
    have := rget_any w' _ n c A.toNat K.toNat l hl (hb.kept f (by simp)) (by omega) (by omega) (by omega)
    rw [Int.toNat_of_nonneg h1, Int.toNat_of_nonneg h2] at this
    rw [HV.out]
    exact this
  have G := hidI hG
  have SK : Hid (∀ w', Fr [] w w' → w'.cell? ⟨b1, o1 + 18, none⟩ = some (.int .u8 (kd : Int))) := hidI (fun w' f => by
    obtain ⟨b2, o2, e2, c2⟩ := (hb.kept f (by simp)) 18 (.int .u8 l[18].toNat) (by simp [arr, g18])
    cases e2
    rw [HK.out] at c2
    exact c2)
  have HB : Hid (BytesAt w (some ⟨b1, o1, none⟩) l) := hidI hb
  have HCH : Hid (candH l = ⟨V 0 8, V 8 4, kd, V 19 8, V 27 8, 0, 0, 0, [], []⟩) := hidI (by
    have v4 : V 8 4 = (numAt l 8 4 : Int) := by
      have h := val_cut_lt l 8 4 (by omega)
      rw [HV.out]
      show wrap64 ((numAt l 8 4 : Nat) : Int) = _
      have h' : numAt l 8 4 < 4294967296 := h
      unfold wrap64
      omega
    rw [v4, HV.out, HV.out, HV.out]
    show (⟨_, _, numAt l 18 1, _, _, _, _, _, _, _⟩ : Rec) = _
    rw [num_one l 18 g18, HK.out]
    rfl)
  clear hl hG hb q1
  go_enter Try.func12, Try.ntmps12
  go_wp2_with fail
  have f1 := (Fr.refl [] w).alloc (.cells #[.int .i64 0, .int .i64 0, .int .u8 0, .int .i64 0, .int .i64 0, .int .i64 0, .int .i64 0, .int .i64 0, .slice none 0 0, .slice none 0 0] 27)
  have rR : RBox (w.alloc (.cells #[.int .i64 0, .int .i64 0, .int .u8 0, .int .i64 0, .int .i64 0, .int .i64 0, .int .i64 0, .int .i64 0, .slice none 0 0, .slice none 0 0] 27)) w.heap.size (zeroR 0 0) zeroS := heap_alloc_new w _
  generalize (w.alloc (.cells #[.int .i64 0, .int .i64 0, .int .u8 0, .int .i64 0, .int .i64 0, .int .i64 0, .int .i64 0, .int .i64 0, .slice none 0 0, .slice none 0 0] 27)) = wa at f1 rR ⊢
  refine (G.out 12 2 wa f1 (by omega) (by omega) (by omega) (by omega)).mono ?_
  rintro e w1 ⟨rfl, rfl⟩
  rw [ew]
  go_wp2_with fail
  go_cut [6] from 12 (fun s6 wx => ∃ b, s6 = .pointer (some ⟨b, 0, none⟩) ∧ Mk w wx b (candH l) zeroS)
  case first =>
    have gg := f1.drew
    have k0 := SK.out _ gg
    go_region_held3 (fun w' => w'.cell? ⟨b1, o1 + 18, none⟩ = some (.int .u8 (kd : Int))) (first | exact SK.out _ gg | exact SK.out _ (gg.alloc _))
      ((go_at_call 48; refine (G.out _ _ _ (by first | exact gg | exact gg.alloc _) (by omega) (by omega) (by omega) (by omega)).mono ?_; rintro e w' ⟨rfl, rfl⟩))
    all_goals
      have fd := (f1.alloc (.cells #[.int .i64 (V 0 8), .int .i64 (V 8 4), .int .u8 (kd : Int), .int .i64 (V 19 8), .int .i64 (V 27 8), .int .i64 0, .int .i64 0, .int .i64 0, .slice none 0 0, .slice none 0 0] 27)).drew
      go_wp2_with fail
      go_meet
      case rel =>
        refine ⟨_, rfl, ?_, rR.kept (((Fr.refl [] _).alloc _).drew) (by simp), (Array.getElem?_eq_some_iff.1 rR).1, spots_none _ _ rfl rfl, fd, fun a e => e.elim (fun e => nomatch e) (fun e => nomatch e)⟩
        rw [HCH.out]
        exact heap_alloc_new _ _
  case rest =>
    obtain ⟨b, rfl, mk⟩ := hcut
    have HKN : Hid (numAt l 18 1 = kd) := hidI (by rw [num_one l 18 g18, HK.out])
    have x2 := mk.box.c2
    rw [candH_kind, HKN.out] at x2
    have MK := hidI mk
    clear mk f1 rR
    have HC1 : Hid (17 ≤ sayN l) := hidI (by rw [HN.out]; omega)
    go_upto_region 8 with fail
    go_cut [46] from 12 (fun s46 wx => s46 = .bool (decide (kd = 2 ∧ 25 ≤ N)) ∧ wx = wc)
    case first =>
      by_cases hk2 : kd = 2
      · have ek : ((kd : Int) == 2) = true := by rw [hk2]; rfl
        by_cases hn25 : 25 ≤ N
        · have en : (25 : Int) ≤ (N : Int) := by omega
          have HB2 : Hid (decide (kd = 2 ∧ 25 ≤ N) = true) := hidI (by rw [decide_eq_true_eq]; exact ⟨hk2, hn25⟩)
          clear hk2 hn25
          go_wp2_with fail
          go_meet
          case rel => exact ⟨by rw [HB2.out], rfl⟩
        · have en : ¬ (25 : Int) ≤ (N : Int) := by omega
          have en' : (N : Int) < 25 := by omega
          have HB2 : Hid (decide (kd = 2 ∧ 25 ≤ N) = false) := hidI (by rw [decide_eq_false_iff_not]; exact fun h => hn25 h.2)
          clear hk2 hn25
          go_wp2_with fail
          go_meet
          case rel => exact ⟨by rw [HB2.out], rfl⟩
      · have ek : ((kd : Int) == 2) = false := by rw [beq_eq_false_iff_ne]; omega
        have HB2 : Hid (decide (kd = 2 ∧ 25 ≤ N) = false) := hidI (by rw [decide_eq_false_iff_not]; exact fun h => hk2 h.1)
        clear hk2
        go_wp2_with fail
        go_meet
        case rel => exact ⟨by rw [HB2.out], rfl⟩
    case rest =>
    obtain ⟨rfl, rfl⟩ := hcut
    go_upto_if 46 with fail
    go_cut [7] from 12 (fun s7 wx => s7 = .int .i64 ((cand1 l).2 : Nat) ∧ Mk w wx b (cand1 l).1 zeroS)
    case first =>
      by_cases hu : kd = 2 ∧ 25 ≤ N
      · rw [decide_eq_true hu]
        have hu2 := hidI hu
        clear hu
        have z5 := MK.out.box.fz 5
        have x5 := MK.out.box.c5
        go_wp2_with fail
        refine (G.out 35 8 _ MK.out.fr (by omega) (by omega) (by omega) (by have h1 := hu2.out.2; omega)).mono ?_
        rintro e w2 ⟨rfl, rfl⟩
        go_wp2_with fail
        go_meet
        case rel =>
          have e1 : cand1 l = ({ candH l with next := V 35 8 }, 43) := by
            unfold cand1
            rw [HKN.out, HN.out, if_pos hu2.out, HV.out]
            rfl
          rw [e1]
          exact ⟨rfl, MK.out.set5 (V 35 8)⟩
      · rw [decide_eq_false hu]
        have E1 : Hid (cand1 l = (candH l, 35)) := hidI (by
          unfold cand1
          rw [HKN.out, HN.out, if_neg hu])
        clear hu
        go_wp2_with fail
        go_meet
        case rel =>
          rw [E1.out]
          exact ⟨rfl, MK.out⟩
    case rest =>
      obtain ⟨rfl, mk⟩ := hcut
      clear x2 MK
      obtain ⟨k1, ol1, ne1, A43, A35, AN⟩ := cand1_facts l HC1.out
      rw [HKN.out] at k1
      rw [HN.out] at AN
      obtain ⟨R1, HR1⟩ : ∃ R1, Hid ((cand1 l).1 = R1) := ⟨_, rfl⟩
      obtain ⟨A1, HA1⟩ : ∃ A1, Hid ((cand1 l).2 = A1) := ⟨_, rfl⟩
      rw [HA1.out] at A43 A35 AN ⊢
      rw [HR1.out] at mk k1 ol1 ne1
      have HCR : Hid (candR l = if kd = 2 ∨ kd = 1 then candSp l A1 R1 else R1) := hidI (by rw [candR_eq, HKN.out, HA1.out, HR1.out])
      have x2 := mk.box.c2
      rw [k1] at x2
      have MK := hidI mk
      clear mk
      have hw1 : IntKind.i64.wrap ((A1 : Int) + 8) = (A1 : Int) + 8 := by simp [IntKind.wrap, IntKind.signed, IntKind.bits]; omega
      have hw2 : IntKind.i64.wrap ((A1 : Int) + 4) = (A1 : Int) + 4 := by simp [IntKind.wrap, IntKind.signed, IntKind.bits]; omega
      have hw3 : IntKind.i64.wrap ((A1 : Int) + 6) = (A1 : Int) + 6 := by simp [IntKind.wrap, IntKind.signed, IntKind.bits]; omega
      go_upto_region 11 with fail
      go_cut [64] from 12 (fun s64 wx => s64 = .bool (decide ((kd = 2 ∨ kd = 1) ∧ A1 + 8 ≤ 18 + N)) ∧ wx = wc)
      case first =>
        by_cases hk2 : kd = 2
        · have ek : ((kd : Int) == 2) = true := by rw [hk2]; rfl
          by_cases ha : A1 + 8 ≤ 18 + N
          · have en : (A1 : Int) + 8 ≤ 18 + (N : Int) := by omega
            have HB2 : Hid (decide ((kd = 2 ∨ kd = 1) ∧ A1 + 8 ≤ 18 + N) = true) := hidI (by rw [decide_eq_true_eq]; exact ⟨Or.inl hk2, ha⟩)
            clear hk2 ha
            go_wp2_with fail
            go_meet
            case rel => exact ⟨by rw [HB2.out], rfl⟩
          · have en : ¬ (A1 : Int) + 8 ≤ 18 + (N : Int) := by omega
            have en' : 18 + (N : Int) < (A1 : Int) + 8 := by omega
            have HB2 : Hid (decide ((kd = 2 ∨ kd = 1) ∧ A1 + 8 ≤ 18 + N) = false) := hidI (by rw [decide_eq_false_iff_not]; exact fun h => ha h.2)
            clear hk2 ha
            go_wp2_with fail
            go_meet
            case rel => exact ⟨by rw [HB2.out], rfl⟩
        · have ek : ((kd : Int) == 2) = false := by rw [beq_eq_false_iff_ne]; omega
          by_cases hk1 : kd = 1
          · have ek1 : ((kd : Int) == 1) = true := by rw [hk1]; rfl
            by_cases ha : A1 + 8 ≤ 18 + N
            · have en : (A1 : Int) + 8 ≤ 18 + (N : Int) := by omega
              have HB2 : Hid (decide ((kd = 2 ∨ kd = 1) ∧ A1 + 8 ≤ 18 + N) = true) := hidI (by rw [decide_eq_true_eq]; exact ⟨Or.inr hk1, ha⟩)
              clear hk2 hk1 ha
              go_wp2_with fail
              go_meet
              case rel => exact ⟨by rw [HB2.out], rfl⟩
            · have en : ¬ (A1 : Int) + 8 ≤ 18 + (N : Int) := by omega
              have en' : 18 + (N : Int) < (A1 : Int) + 8 := by omega
              have HB2 : Hid (decide ((kd = 2 ∨ kd = 1) ∧ A1 + 8 ≤ 18 + N) = false) := hidI (by rw [decide_eq_false_iff_not]; exact fun h => ha h.2)
              clear hk2 hk1 ha
              go_wp2_with fail
              go_meet
              case rel => exact ⟨by rw [HB2.out], rfl⟩
          · have ek1 : ((kd : Int) == 1) = false := by rw [beq_eq_false_iff_ne]; omega
            have HB2 : Hid (decide ((kd = 2 ∨ kd = 1) ∧ A1 + 8 ≤ 18 + N) = false) := hidI (by rw [decide_eq_false_iff_not]; exact fun h => h.1.elim hk2 hk1)
            clear hk2 hk1
            go_wp2_with fail
            go_meet
            case rel => exact ⟨by rw [HB2.out], rfl⟩
      case rest =>
      obtain ⟨rfl, rfl⟩ := hcut
      go_upto_if 64 with fail
      go_cut [] from 12 (fun wx => ∃ s, Mk w wx b (candR l) s)
      case first =>
        by_cases hc2 : (kd = 2 ∨ kd = 1) ∧ A1 + 8 ≤ 18 + N
        · rw [decide_eq_true hc2]
          have en : (A1 : Int) + 8 ≤ 18 + (N : Int) := by omega
          obtain ⟨B4, HB4⟩ : ∃ x : Nat, Hid (numAt l A1 4 = x) := ⟨_, rfl⟩
          obtain ⟨O2, HO2⟩ : ∃ x : Nat, Hid (numAt l (A1 + 4) 2 = x) := ⟨_, rfl⟩
          obtain ⟨M, HM⟩ : ∃ x : Nat, Hid (numAt l (A1 + 6) 2 = x) := ⟨_, rfl⟩
          have v4 : V (A1 : Int) 4 = (B4 : Int) := by
            rw [HV.out, ← HB4.out]
            exact (small_num l A1 4 (by omega) (by rw [HL.out]; omega)).1
          have v2 : V ((A1 : Int) + 4) 2 = (O2 : Int) := by
            rw [HV.out, ← HO2.out, show ((A1 : Int) + 4).toNat = A1 + 4 by omega]
            exact (small_num l (A1 + 4) 2 (by omega) (by rw [HL.out]; omega)).1
          have vm : V ((A1 : Int) + 6) 2 = (M : Int) := by
            rw [HV.out, ← HM.out, show ((A1 : Int) + 6).toNat = A1 + 6 by omega]
            exact (small_num l (A1 + 6) 2 (by omega) (by rw [HL.out]; omega)).1
          have hM : M < 65536 := by
            rw [← HM.out]
            exact (small_num l (A1 + 6) 2 (by omega) (by rw [HL.out]; omega)).2
          obtain ⟨T, HT⟩ : ∃ T : Nat, Hid (A1 + 8 = T) := ⟨_, rfl⟩
          have hTn : T ≤ 18 + N := by rw [← HT.out]; exact hc2.2
          have hw1' : IntKind.i64.wrap ((A1 : Int) + 8) = (T : Int) := by rw [hw1, ← HT.out]; rfl
          clear hw1
          have HK12 := hidI hc2
          clear hc2
          have z6 := MK.out.box.fz 6
          have x6 := MK.out.box.c6
          obtain ⟨w4, hw4⟩ : ∃ w4, wc.setCell ⟨b, 6, none⟩ (.int .i64 (B4 : Int)) = w4 := ⟨_, rfl⟩
          have mk4 := MK.out.set6 (B4 : Int)
          rw [hw4] at mk4
          have z7 := mk4.box.fz 7
          have x7 := mk4.box.c7
          obtain ⟨w5, hw5⟩ : ∃ w5, w4.setCell ⟨b, 7, none⟩ (.int .i64 (O2 : Int)) = w5 := ⟨_, rfl⟩
          have mk5 := mk4.set7 (O2 : Int)
          rw [hw5] at mk5
          have y2 := mk5.box.c2
          have k5 : (({ R1 with block := (B4 : Int), off := (O2 : Int) } : Rec).kind) = kd := k1
          obtain ⟨R5, HR5⟩ : ∃ R5, Hid (({ R1 with block := (B4 : Int), off := (O2 : Int) } : Rec) = R5) := ⟨_, rfl⟩
          have mk5' : Mk w w5 b R5 zeroS := by rw [← HR5.out]; exact mk5
          have y2' : w5.cell? ⟨b, 2, none⟩ = some (.int .u8 (kd : Int)) := by rw [← k5]; exact y2
          clear y2 k5 mk5
          have MK4 := hidI mk4
          have MK5 := hidI mk5'
          clear mk4 mk5'
          go_wp2_with fail
          refine (G.out _ _ _ MK.out.fr (by omega) (by omega) (by omega) (by omega)).mono ?_
          rintro e wz ⟨rfl, hz⟩
          rw [hz, v4]
          clear hz
          go_wp2_with fail
          refine (G.out _ _ _ MK4.out.fr (by omega) (by omega) (by omega) (by omega)).mono ?_
          rintro e wz ⟨rfl, hz⟩
          rw [hz, v2]
          clear hz
          go_wp2_with fail
          refine (G.out _ _ _ MK5.out.fr (by omega) (by omega) (by omega) (by omega)).mono ?_
          rintro e wz ⟨rfl, hz⟩
          rw [hz, vm]
          clear hz x6 z6 x7 z7 hw4 hw5 x2 v4 v2 vm
          have hwm : IntKind.i64.wrap (2 * (M : Int)) = 2 * (M : Int) := by simp [IntKind.wrap, IntKind.signed, IntKind.bits]; omega
          have hws : IntKind.i64.wrap ((T : Int) + 2 * (M : Int)) = (T : Int) + 2 * (M : Int) := by simp [IntKind.wrap, IntKind.signed, IntKind.bits]; omega
          obtain ⟨E, HE⟩ : ∃ E : Nat, Hid (T + M = E) := ⟨_, rfl⟩
          have hE : E ≤ 200000 := by rw [← HE.out]; omega
          have hTE : T ≤ E := by rw [← HE.out]; omega
          have hwe : IntKind.i64.wrap ((T : Int) + (M : Int)) = (E : Int) := by rw [← HE.out]; simp [IntKind.wrap, IntKind.signed, IntKind.bits]; omega
          go_upto_region 16 with fail
          go_cut [93] from 12 (fun s93 wx => s93 = .bool (decide (kd = 1 ∧ T + 2 * M = 18 + N)) ∧ wx = w5)
          case first =>
            by_cases hk1 : kd = 1
            · have ek : ((kd : Int) == 1) = true := by rw [hk1]; rfl
              by_cases ha : T + 2 * M = 18 + N
              · have en : ((T : Int) + 2 * (M : Int) == 18 + (N : Int)) = true := by rw [beq_iff_eq]; omega
                have HB2 : Hid (decide (kd = 1 ∧ T + 2 * M = 18 + N) = true) := hidI (by rw [decide_eq_true_eq]; exact ⟨hk1, ha⟩)
                clear hk1 ha
                go_wp2_with fail
                go_meet
                case rel => exact ⟨by rw [HB2.out], rfl⟩
              · have en : ((T : Int) + 2 * (M : Int) == 18 + (N : Int)) = false := by rw [beq_eq_false_iff_ne]; omega
                have HB2 : Hid (decide (kd = 1 ∧ T + 2 * M = 18 + N) = false) := hidI (by rw [decide_eq_false_iff_not]; exact fun h => ha h.2)
                clear hk1 ha
                go_wp2_with fail
                go_meet
                case rel => exact ⟨by rw [HB2.out], rfl⟩
            · have ek : ((kd : Int) == 1) = false := by rw [beq_eq_false_iff_ne]; omega
              have HB2 : Hid (decide (kd = 1 ∧ T + 2 * M = 18 + N) = false) := hidI (by rw [decide_eq_false_iff_not]; exact fun h => hk1 h.1)
              clear hk1
              go_wp2_with fail
              go_meet
              case rel => exact ⟨by rw [HB2.out], rfl⟩
          case rest =>
            obtain ⟨rfl, hwc⟩ := hcut
            rw [hwc]
            clear hwc y2' hwm hws
            have HCS : Hid (candR l = candSp l A1 R1) := hidI (by rw [HCR.out, if_pos HK12.out.1])
            have hT0 : (0 : Int) ≤ (T : Int) := by omega
            have hTE' : (T : Int) ≤ (E : Int) := by omega
            by_cases h3 : kd = 1 ∧ T + 2 * M = 18 + N
            · rw [decide_eq_true h3]
              have H3 := hidI h3
              have hEn : E ≤ n := by rw [← HE.out]; omega
              have hEc : (E : Int) ≤ (c : Int) := by omega
              obtain ⟨F, HF⟩ : ∃ F : Nat, Hid (E + M = F) := ⟨_, rfl⟩
              have hFN : F = 18 + N := by rw [← HF.out, ← HE.out]; omega
              have hEF : (E : Int) ≤ (F : Int) := by rw [← HF.out]; omega
              have hE0 : (0 : Int) ≤ (E : Int) := by omega
              have hFc : (F : Int) ≤ (c : Int) := by omega
              have hwf : IntKind.i64.wrap ((E : Int) + (M : Int)) = (F : Int) := by rw [← HF.out]; simp [IntKind.wrap, IntKind.signed, IntKind.bits]; omega
              have hFe : ((F : Int) == 18 + (N : Int)) = true := by rw [beq_iff_eq]; omega
              have HLL : Hid (((l.drop T).take (E - T)).length = E - T) := hidI (by rw [List.length_take, List.length_drop, HL.out]; omega)
              have HL2 : Hid (((l.drop E).take (F - E)).length = F - E) := hidI (by rw [List.length_take, List.length_drop, HL.out]; omega)
              obtain ⟨o9, HO, hdp⟩ := take_at c T b1 o1
              obtain ⟨o7, HO7, hdp7⟩ := take_at c E b1 o1
              have HS1 : Hid (∀ w', Fr [] w w' → BytesAt w' (some ⟨b1, o9, none⟩) ((l.drop T).take (E - T))) := hidI (fun w' f => cut_atQ (HB.out.kept f (by simp)) hc (by omega) HO)
              have HS2 : Hid (∀ w', Fr [] w w' → BytesAt w' (some ⟨b1, o7, none⟩) ((l.drop E).take (F - E))) := hidI (fun w' f => cut_atQ (HB.out.kept f (by simp)) hc (by omega) HO7)
              have HC : Hid (candR l = { R5 with old := (l.drop T).take (E - T), new := (l.drop E).take (F - E) }) := hidI (by
                rw [HCS.out, ← HR5.out]
                unfold candSp
                rw [HN.out, HM.out, HT.out, if_neg (by omega), if_pos ⟨by rw [k1]; exact H3.out.1, H3.out.2⟩, HB4.out, HO2.out, HE.out, show E - T = M by rw [← HE.out]; omega, show F - E = M by rw [← HF.out]; omega])
              have hF1 : F ≤ 18 + N := by omega
              have hF2 : 18 + N ≤ F := by omega
              clear h3 hFN
              go_upto_region 18 with ((refine wp_app rfl _ _ rfl w5 _ 0 [] rfl (own_made0 w5) _ (E - T) _ ((l.drop T).take (E - T)) rfl HLL.out (HS1.out _ (MK5.out.fr.alloc _)) (by omega) (fun _ => ⟨_, rfl⟩) ?_; intro v8 w8 o8; rw [Nat.zero_add, List.nil_append] at o8; obtain ⟨ad8, c8, rfl, b8, y8, n8⟩ := own_sl o8 HLL.out; have mk8 := MK5.out.kept o8.2; have z8 := mk8.box.fz 8; have x8 := mk8.box.c8))
              have hb5 := MK5.out.lt
              have mk9 := mk8.set8 ad8 _ (E - T) c8 HLL.out b8 y8 (fun a e => by have := n8 a e; omega)
              generalize w8.setCell ⟨b, 8, none⟩ (.slice ad8 (E - T) c8) = w9 at mk9 ⊢
              have MK9 := hidI mk9
              clear z8 x8 mk8 o8 b8 mk9
              go_upto_region 21 with ((refine wp_app rfl _ _ rfl w9 _ 0 [] rfl (own_made0 w9) _ (F - E) _ ((l.drop E).take (F - E)) rfl HL2.out (HS2.out _ (MK9.out.fr.alloc _)) (by omega) (fun _ => ⟨_, rfl⟩) ?_; intro v6 w6 o6; rw [Nat.zero_add, List.nil_append] at o6; obtain ⟨ad6, c6, rfl, b6, y6, n6⟩ := own_sl o6 HL2.out; have mk6 := MK9.out.kept o6.2; have z6 := mk6.box.fz 9; have x6 := mk6.box.c9))
              go_meet
              case rel =>
                rw [HC.out]
                have hb9 := MK9.out.lt
                exact ⟨_, mk6.set9 ad6 _ (F - E) c6 HL2.out b6 y6 (fun a e => by have := n6 a e; omega)⟩
            · rw [decide_eq_false h3]
              by_cases h4 : E = 18 + N
              · have hFe : ((E : Int) == 18 + (N : Int)) = true := by rw [beq_iff_eq]; omega
                have hEc : (E : Int) ≤ (c : Int) := by omega
                have HLL : Hid (((l.drop T).take (E - T)).length = E - T) := hidI (by rw [List.length_take, List.length_drop, HL.out]; omega)
                obtain ⟨o9, HO, hdp⟩ := take_at c T b1 o1
                have HS1 : Hid (∀ w', Fr [] w w' → BytesAt w' (some ⟨b1, o9, none⟩) ((l.drop T).take (E - T))) := hidI (fun w' f => cut_atQ (HB.out.kept f (by simp)) hc (by omega) HO)
                have HC : Hid (candR l = { R5 with new := (l.drop T).take (E - T) }) := hidI (by
                  rw [HCS.out, ← HR5.out]
                  unfold candSp
                  rw [HN.out, HM.out, HT.out, if_neg (by omega), if_neg (by rw [k1]; exact h3), if_pos (by rw [HE.out]; exact h4), HB4.out, HO2.out, show E - T = M by rw [← HE.out]; omega])
                have hE1 : E ≤ 18 + N := by omega
                clear h3 h4
                go_upto_region 21 with ((refine wp_app rfl _ _ rfl w5 _ 0 [] rfl (own_made0 w5) _ (E - T) _ ((l.drop T).take (E - T)) rfl HLL.out (HS1.out _ (MK5.out.fr.alloc _)) (by omega) (fun _ => ⟨_, rfl⟩) ?_; intro v8 w8 o8; rw [Nat.zero_add, List.nil_append] at o8; obtain ⟨ad8, c8, rfl, b8, y8, n8⟩ := own_sl o8 HLL.out; have mk8 := MK5.out.kept o8.2; have z8 := mk8.box.fz 9; have x8 := mk8.box.c9))
                go_meet
                case rel =>
                  rw [HC.out]
                  have hb5 := MK5.out.lt
                  exact ⟨_, mk8.set9 ad8 _ (E - T) c8 HLL.out b8 y8 (fun a e => by have := n8 a e; omega)⟩
              · have hFe : ((E : Int) == 18 + (N : Int)) = false := by rw [beq_eq_false_iff_ne]; omega
                have HC : Hid (candR l = R5) := hidI (by
                  rw [HCS.out, ← HR5.out]
                  unfold candSp
                  rw [HN.out, HM.out, HT.out, if_neg (by omega), if_neg (by rw [k1]; exact h3), if_neg (by rw [HE.out]; exact h4), HB4.out, HO2.out])
                clear h3 h4
                go_wp2_with fail
                go_meet
                case rel =>
                  rw [HC.out]
                  exact ⟨_, MK5.out⟩
        · rw [decide_eq_false hc2]
          have HC : Hid (candR l = R1) := hidI (by
            rw [HCR.out]
            split
            · rename_i hk
              unfold candSp
              rw [if_pos (by rw [HN.out]; omega)]
            · rfl)
          clear hc2
          go_wp2_with fail
          go_meet
          case rel =>
            rw [HC.out]
            exact ⟨_, MK.out⟩
      case rest =>
        obtain ⟨s, mk⟩ := hcut
        clear x2 MK hw1 hw2 hw3 HCR HR1 HA1 k1 ol1 ne1 A43 A35 AN
        obtain ⟨R, HR⟩ : ∃ R, Hid (candR l = R) := ⟨_, rfl⟩
        rw [HR.out] at mk
        have MK := hidI mk
        have fb := mk.fr
        have hnew := mk.new
        go_wp2_with (refine wpList_load_row rfl 27 _ rfl b rfl _ _ _ _ MK.out.box Try.underlying27 rfl (by rw [sizeR]; rfl) ?_)
        have HD0 : Hid (¬ (rightB R = true ∧ encL R = l.take (18 + N)) → decR l = none) := hidI (fun h => by
          rw [← getR_eq]
          unfold getR
          rw [HR.out, HN.out, if_neg (by rw [HL.out]; omega), if_neg (by rw [HL.out]; omega), if_neg h])
        have HD1 : Hid (rightB R = true ∧ encL R = l.take (18 + N) → decR l = some (R, 18 + N)) := hidI (fun h => by
          rw [← getR_eq]
          unfold getR
          rw [HR.out, HN.out, if_neg (by rw [HL.out]; omega), if_neg (by rw [HL.out]; omega), if_pos h])
        by_cases hr : rightB R = true
        · have hD1 := hidI hr
          refine (rPut_ok _ R s MK.out.sp hr).mono ?_
          rintro e w3 ⟨v, rfl, ow⟩
          obtain ⟨n0, n1⟩ := body_bounds hr
          have hle := encL_length R
          obtain ⟨L, HLE⟩ : ∃ L, Hid ((encL R).length = L) := ⟨_, rfl⟩
          rw [HLE.out] at ow hle
          obtain ⟨g, cg, rfl, hbg, hgn, hcg⟩ := own_at ow (by omega) HLE.out
          have mk3 := MK.out.kept ow.2
          have fb3 := mk3.fr
          have MK3 := hidI mk3
          clear ow mk fb MK hr mk3
          by_cases hL : L = 18 + N
          · have hLn : ((L : Int) != 18 + (N : Int)) = false := by rw [bne_eq_false_iff_eq]; omega
            have hLi : (L : Int) = 18 + (N : Int) := by omega
            go_wp2_with fail
            go_loopw [11] (fun s11 wr => ∃ j : Nat, j ≤ L ∧ s11 = .int .i64 j ∧ (∀ k, k < j → byteAt (encL R) k = byteAt l k) ∧ Fr [] w3 wr) (fun s _ => L - (intOf s).toNat)
            case atStart => exact ⟨0, by omega, rfl, fun k h => absurd h (by omega), Fr.refl _ _⟩
            case round =>
              obtain ⟨j, hj, rfl, hsame, fr⟩ := hrel
              have HSM := hidI hsame
              clear hsame
              have mkr := MK3.out.kept fr
              have MKR := hidI mkr
              clear mkr
              by_cases hlt : j < L
              · have hlt' : (j : Int) < (L : Int) := by omega
                have hltn : (j : Int) < (n : Int) := by omega
                have hj0 : (0 : Int) ≤ (j : Int) := by omega
                obtain ⟨g', o', e', q1⟩ := (hbg.kept fr (by simp)).at j (by rw [HLE.out]; exact hlt)
                cases e'
                rw [Nat.zero_add] at q1
                obtain ⟨g', o', e', q2⟩ := ((HB.out.kept fb3 (by simp)).kept fr (by simp)).at j (by rw [HL.out]; omega)
                cases e'
                obtain ⟨X, HX⟩ : ∃ X, Hid ((byteAt (encL R) j).toNat = X) := ⟨_, rfl⟩
                obtain ⟨Y, HY⟩ : ∃ Y, Hid ((byteAt l j).toNat = Y) := ⟨_, rfl⟩
                rw [HX.out] at q1
                rw [HY.out] at q2
                by_cases hxy : X = Y
                · have hxy' : ((X : Int) != (Y : Int)) = false := by rw [bne_eq_false_iff_eq]; omega
                  have HXY := hidI hxy
                  clear hxy
                  go_wp2_with fail
                  go_quiet (fail)
                  go_wp2_with fail
                  refine ⟨⟨j + 1, by omega, by go_num, ?_, fr.drewN _⟩, by simp [intOf]; omega⟩
                  intro k hk
                  by_cases hkj : k < j
                  · exact HSM.out k hkj
                  · obtain rfl : k = j := by omega
                    apply UInt8.toNat_inj.1
                    rw [HX.out, HY.out, HXY.out]
                · have hxy' : ((X : Int) != (Y : Int)) = true := by rw [bne_iff_ne]; omega
                  have HXY := hidI hxy
                  clear hxy
                  go_wp2_with fail
                  go_quiet (fail)
                  have mkd := MKR.out.kept ((Fr.refl [] _).drewN nq)
                  have rbz := mkd.res
                  go_wp2_with (refine wp_storeR rfl _ _ rfl w.heap.size (zeroR 0 0) (zeroR 0 0) zeroS zeroS rfl rfl rbz ?_; intro w7 rb7 f7)
                  refine bodyPost_ret (resR3 rfl _ _ w.heap.size (zeroR 0 0) zeroS rfl rb7) rfl (Or.inl ⟨HD0.out ?_, rfl, mkd.fr.then f7 (fun i hi hm => by simp at hm; omega)⟩)
                  rintro ⟨-, he⟩
                  refine HXY.out ?_
                  rw [← HX.out, ← HY.out, he]
                  have hj2 : j < 18 + N := by omega
                  simp [byteAt, hj2]
              · obtain rfl : j = L := by omega
                have nlt : ¬ (j : Int) < (j : Int) := by omega
                go_wp2_with (first
                  | (refine wpList_load_row rfl 27 _ rfl b rfl _ _ _ _ MKR.out.box Try.underlying27 rfl (by rw [sizeR]; rfl) ?_)
                  | (refine wp_storeR rfl _ _ rfl w.heap.size (zeroR 0 0) R zeroS s rfl rfl MKR.out.res ?_; intro w7 rb7 f7))
                have hsp := MKR.out.sp
                refine bodyPost_ret (resR3 rfl _ _ w.heap.size R s rfl rb7) rfl (Or.inr ⟨R, 18 + N, s, HD1.out ⟨hD1.out, ?_⟩, ret3 (by omega), ⟨hsp.b1.kept f7 ?_, hsp.b2.kept f7 ?_, hsp.n1, hsp.n2⟩, MKR.out.fr.then f7 (fun i hi hm => by simp at hm; omega)⟩)
                · refine List.ext_getElem? fun k => ?_
                  rw [List.getElem?_take]
                  split
                  · rename_i hk
                    have h1 := HSM.out k (by omega)
                    have g1 : k < (encL R).length := by rw [HLE.out]; omega
                    have g2 : k < l.length := by rw [HL.out]; omega
                    rw [byteAt_lt g1, byteAt_lt g2] at h1
                    rw [List.getElem?_eq_getElem g1, List.getElem?_eq_getElem g2, h1]
                  · rw [List.getElem?_eq_none_iff, HLE.out]
                    omega
                · intro b' off e
                  have := MKR.out.far _ (Or.inl e)
                  dsimp only at this
                  simp; omega
                · intro b' off e
                  have := MKR.out.far _ (Or.inr e)
                  dsimp only at this
                  simp; omega
          · have hLn : ((L : Int) != 18 + (N : Int)) = true := by rw [bne_iff_ne]; omega
            have rbz := MK3.out.res
            go_wp2_with (refine wp_storeR rfl _ _ rfl w.heap.size (zeroR 0 0) (zeroR 0 0) zeroS zeroS rfl rfl rbz ?_; intro w7 rb7 f7)
            refine bodyPost_ret (resR3 rfl _ _ w.heap.size (zeroR 0 0) zeroS rfl rb7) rfl (Or.inl ⟨HD0.out ?_, rfl, MK3.out.fr.then f7 (fun i hi hm => by simp at hm; omega)⟩)
            rintro ⟨-, he⟩
            have h2 := congrArg List.length he
            rw [HLE.out, List.length_take, HL.out] at h2
            omega
        · have hr' : rightB R = false := by simpa using hr
          have HRF := hidI hr
          refine (rPut_no _ R s (by rw [← HR.out]; exact cand_new l (by rw [HL.out]; omega)) hr').mono ?_
          rintro e w3 ⟨rfl, f3⟩
          have mk3 := MK.out.kept f3
          have rbz := mk3.res
          clear mk hr hr'
          go_wp2_with (refine wp_storeR rfl _ _ rfl w.heap.size (zeroR 0 0) (zeroR 0 0) zeroS zeroS rfl rfl rbz ?_; intro w7 rb7 f7)
          refine bodyPost_ret (resR3 rfl _ _ w.heap.size (zeroR 0 0) zeroS rfl rb7) rfl (Or.inl ⟨HD0.out (fun h => HRF.out h.1), rfl, mk3.fr.then f7 (fun i hi hm => by simp at hm; omega)⟩)

end Go.Proofs.Yticmjdblcomecaa

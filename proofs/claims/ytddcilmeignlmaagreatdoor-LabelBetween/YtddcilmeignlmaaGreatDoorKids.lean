/-
  Labels: Kids.
-/
import Derived.Test.YtddcilmeignlmaaGreatDoorKRow
namespace Go.Proofs.YtddcilmeignlmaaGreatDoor
open Go.RowKit Go.Maps Go.Lib

/-- Children made so far. -/
structure KTo (w wr : World) (v : Value) (n : Nat) (xs : List Value) (pp : List (List Bool)) (wide : Nat) : Prop where
  own : wr.ownsRow 0 22 1 v n xs
  new : ∀ g, v.ownBlock = some g → w.heap.size ≤ g
  fr : Fr [] w wr
  kids : ∀ i, i < n → ∃ x l, xs[i]? = some x ∧ Lab l (pp ++ [kidS wide (i + 1)]) ∧ Out w wr x l
  rise : ∀ (i j : Nat) (x y : Value) (g h : Nat), i < j → xs[i]? = some x → xs[j]? = some y → x.ownBlock = some g → y.ownBlock = some h → g < h
theorem own_in {w : World} {B : Nat} {v : Value} {n : Nat} {xs : List Value} (h : w.ownsRow B 5 1 v n xs) (g : Nat) (hg : v.ownBlock = some g) : B ≤ g ∧ g < w.heap.size := by
  rcases h.2 with ⟨e, _⟩ | ⟨g1, c1, cur1, e1, hB, hh1, _⟩
  · rw [e] at hg; cases hg
  · rw [e1] at hg
    have a1 : g1 = g := by simpa [Value.ownBlock] using hg
    subst a1
    exact ⟨hB, (Array.getElem?_eq_some_iff.1 hh1).1⟩
theorem Out.at {w w' : World} {v : Value} {l : List UInt8} (h : Out w w' v l) (g : Nat) (hg : v.ownBlock = some g) : w.heap.size ≤ g ∧ g < w'.heap.size := by
  obtain ⟨ad, cap, rfl, h1⟩ := h
  exact own_in h1 g hg

theorem KTo.keep {w wr w' : World} {v : Value} {n : Nat} {xs : List Value} {pp : List (List Bool)} {wide : Nat} (h : KTo w wr v n xs pp wide) (f : Fr [] wr w') : KTo w w' v n xs pp wide :=
  ⟨own_kept h.own f (by simp), h.new, h.fr.trans f, fun i hi => by
    obtain ⟨x, l, h1, h2, h3⟩ := h.kids i hi
    exact ⟨x, l, h1, h2, h3.kept f⟩, h.rise⟩
theorem KTo.from {w0 w wr : World} {v : Value} {n : Nat} {xs : List Value} {pp : List (List Bool)} {wide : Nat} (h : KTo w wr v n xs pp wide) (f : Fr [] w0 w) : KTo w0 wr v n xs pp wide :=
  ⟨h.own, fun g hg => Nat.le_trans f.size (h.new g hg), f.trans h.fr, fun i hi => by
    obtain ⟨x, l, h1, h2, h3⟩ := h.kids i hi
    exact ⟨x, l, h1, h2, h3.from f⟩, h.rise⟩
theorem KTo.app {w wr w' : World} {v : Value} {n : Nat} {xs : List Value} {pp : List (List Bool)} {wide g cap : Nat} {x : Value} {l : List UInt8} (h : KTo w wr v n xs pp wide) (o : w'.ownsRow 0 22 1 (.slice (some ⟨g, 0, none⟩) (n + 1) cap) (n + 1) (xs ++ [x])) (f : Fr v.ownBlock.toList wr w') (at5 : v.ownBlock = some g ∨ g = wr.heap.size) (hl : Lab l (pp ++ [kidS wide (n + 1)])) (ho : Out w wr x l) (hx : ∀ (i : Nat) (y : Value) (a b : Nat), xs[i]? = some y → y.ownBlock = some a → x.ownBlock = some b → a < b) : KTo w w' (.slice (some ⟨g, 0, none⟩) (n + 1) cap) (n + 1) (xs ++ [x]) pp wide := by
  have hs := h.fr.size
  have hxl : xs.length = n := by have := h.own.1; omega
  refine ⟨o, ?_, h.fr.then f (fun i hi hm => ?_), fun i hi => ?_, ?rise⟩
  case rise =>
    intro i j y z a b hij h1 h2 h3 h4
    have hj : j < (xs ++ [x]).length := (List.getElem?_eq_some_iff.1 h2).1
    rw [List.length_append, List.length_singleton, hxl] at hj
    rw [List.getElem?_append_left (by omega)] at h1
    by_cases e : j = n
    · subst e
      rw [List.getElem?_append_right (by omega), hxl, Nat.sub_self] at h2
      obtain rfl : x = z := by simpa using h2
      exact hx i y a b h1 h3 h4
    · rw [List.getElem?_append_left (by omega)] at h2
      exact h.rise i j y z a b hij h1 h2 h3 h4
  · intro y hy
    have : g = y := by simpa [Value.ownBlock] using hy
    subst this
    rcases at5 with e | e
    · exact h.new g e
    · omega
  · simp at hm
    have := h.new i hm
    omega
  · by_cases e : i = n
    · subst e
      exact ⟨x, l, by rw [List.getElem?_append_right (by omega), hxl, Nat.sub_self]; rfl, hl, ho.apart h.own f⟩
    · obtain ⟨x', l', h1, h2, h3⟩ := h.kids i (by omega)
      exact ⟨x', l', by rw [List.getElem?_append_left (by omega)]; exact h1, h2, h3.apart h.own f⟩

set_option maxHeartbeats 2000000 in
set_option maxRecDepth 100000 in
theorem kids_ok (w : World) (hL : Laid w) (ad : Option Addr) (m c : Nat) (l : List UInt8) (pp : List (List Bool)) (L : Lab l pp) (hl : l.length = m) (hb : BytesAt w ad l) (hp : Plain ad) (n k : Nat) (hn : n ≤ 16384) (hk : n / 2 ^ k < 2 ∧ (k = 0 ∨ 2 ^ k ≤ n)) :
    Calls Tryz.prog 25 #[.slice ad m c, .int .i64 (n : Int)] w fun e w' => (∃ v xs, e = .returned (.tuple #[v, .int .i64 0]) ∧ KTo w w' v n xs pp (k + 1)) ∨ (∃ i, i < n ∧ e = .returned (.tuple #[.slice none 0 0, .int .i64 140]) ∧ 1024 < (enc (pp ++ [kidS (k + 1) (i + 1)])).length ∧ Fr [] w w') := by
  have hr := read_yes w ad m c l pp L hl hb hp
  have HL : Hid (Lab l pp) := L
  have HK : Hid (n / 2 ^ k < 2 ∧ (k = 0 ∨ 2 ^ k ≤ n)) := hk
  have hn0 : (0 : Int) ≤ (n : Int) := by omega
  have hn1 : (n : Int) ≤ 16384 := by omega
  clear L hl hk
  go_enter Tryz.func25, Tryz.ntmps25
  go_wp2_with fail
  refine hr.mono ?_
  rintro e w1 ⟨u2, u3, rfl, q2, q3, f1⟩
  have f1a := f1.alloc (.cells #[.string (mkS l), .int .i64 ((enc pp).length : Int), .string u2, .int .i64 ((enc pp.dropLast).length : Int), .string u3, .int .i64 ((lastS pp).length : Int), .int .i64 (pp.length : Int)] 45)
  have pB : PBox (w1.alloc (.cells #[.string (mkS l), .int .i64 ((enc pp).length : Int), .string u2, .int .i64 ((enc pp.dropLast).length : Int), .string u3, .int .i64 ((lastS pp).length : Int), .int .i64 (pp.length : Int)] 45)) w1.heap.size (mkS l) (enc pp).length u2 (enc pp.dropLast).length u3 (lastS pp).length (pp.length : Int) := heap_alloc_new w1 _
  have hb1 := binary_any _ (hL.kept f1a) n hn
  clear hr
  go_wp2_with fail
  refine hb1.mono ?_
  rintro e w2 ⟨k', rfl, hk1, hk2, f2⟩
  obtain rfl : k = k' := top_one HK.out ⟨hk1, hk2⟩
  have hsz : (mkS (txt (lowB n (k + 1)))).size = k + 1 := by rw [mkS_size, txt_length, lowB_len]
  obtain ⟨K, hK⟩ : ∃ K, k + 1 = K := ⟨_, rfl⟩
  have HKK : Hid (k + 1 = K) := hK
  have hK15 : K ≤ 15 := by
    rcases hk2 with e | e
    · omega
    · rcases Nat.lt_or_ge 14 k with h' | h'
      · have : 2 ^ 15 ≤ 2 ^ k := Nat.pow_le_pow_right (by omega) h'
        omega
      · omega
  rw [hK] at hsz ⊢
  have pB2 := pB.kept f2 (by simp)
  have g2 := f1a.trans f2
  clear hb1 hk1 hk2 hK pB f1a f1 f2
  generalize w1.heap.size = B at pB2 ⊢
  go_wp2_with fail
  have K0 : KTo w2 w2 (.slice none 0 0) 0 [] pp K := ⟨World.ownsRow_nil _ _ _ _, fun g hg => by simp [Value.ownBlock] at hg, Fr.refl _ _, (fun i hi => by omega), fun i j x y g h _ hx => by simp at hx⟩
  have HP : Hid (∀ w', Fr [] w2 w' → w'.cell? ⟨B, 0, none⟩ = some (.string (mkS l)) ∧ w'.cell? ⟨B, 1, none⟩ = some (.int .i64 ((enc pp).length : Int))) := fun w' g => ⟨(pB2.kept g (by simp)).c0, (pB2.kept g (by simp)).c1⟩
  have HLA : Hid (Laid w2) := hL.kept g2
  have HG : Hid (Fr [] w w2) := g2
  clear pB2 q2 q3 g2 hL
  go_loopw [8, 10] (fun v8 v10 wr => ∃ (i I : Nat) (a8 : Option Addr) (c8 : Nat) (xs : List Value), i ≤ n ∧ i + 1 = I ∧ v10 = .int .i64 (I : Nat) ∧ v8 = .slice a8 i c8 ∧ KTo w2 wr (.slice a8 i c8) i xs pp K) (fun _ v10 _ => n + 1 - (RowKit.intOf v10).toNat)
  case atStart => exact ⟨0, 1, none, 0, [], by omega, rfl, rfl, rfl, K0⟩
  case round =>
    obtain ⟨i, I, a8, c8, xs, hin, hI, rfl, rfl, Ki⟩ := hrel
    have hI0 : (0 : Int) ≤ (I : Int) := by omega
    have hI1 : (I : Int) ≤ 16385 := by omega
    by_cases hlt : i < n
    · have hlt' : (I : Int) ≤ (n : Int) := by omega
      obtain ⟨j, hj⟩ := top_ex I
      have hjk : j ≤ k := top_mono (by omega) hj HK.out
      obtain ⟨cc, hcc⟩ : ∃ cc, cc + (j + 1) = K := ⟨K - (j + 1), by have := HKK.out; omega⟩
      obtain ⟨hks, hok⟩ := kidS_eq (by omega) hj hcc
      have hkl := kidS_len K I
      have HH : Hid ((∀ w', Laid w' → Calls Tryz.prog 49 #[.int .i64 (I : Int), .int .i64 (K : Int)] w' fun e w'' => e = .returned (.string (mkS (txt (kidS K I)))) ∧ Fr [] w' w'') ∧ okS (kidS K I) ∧ (kidS K I).length ≤ 2000) := ⟨fun w' hla => by
        have := kidStep_any w' hla I K j cc (by omega) hcc (by omega) hj
        rw [hks] at this
        exact this, hok, by omega⟩
      clear hj hjk hcc hks hok hkl K0
      go_wp2_with fail
      have gg : Fr [] w2 wr.drew := Ki.fr.drew
      go_region_held3 (fun w' => w'.cell? ⟨B, 0, none⟩ = some (.string (mkS l)) ∧ w'.cell? ⟨B, 1, none⟩ = some (.int .i64 ((enc pp).length : Int))) (exact HP.out _ gg)
        ((first | (go_at_call 49; refine (HH.out.1 _ (HLA.out.kept gg)).mono ?_; rintro e w5 ⟨rfl, f5⟩; replace gg := gg.trans f5) | (go_at_call 43; refine (child_one _ (mkS l) (enc pp).length pp HL.out.rep HL.out.ok HL.out.most (kidS K I) HH.out.2.1 HH.out.2.2).mono ?_; rintro e w6 ⟨v6, en, rfl, hd6, f6⟩; have gg0 := gg; replace gg := gg.trans f6)))
      all_goals
        have K6 : KTo w2 w6 (.slice a8 i c8) i xs pp K := (Ki.keep ((Fr.refl [] wr).drew)).keep (f5.trans f6)
        rcases hd6 with ⟨rfl, l6, hL6, hO6⟩ | ⟨rfl, rfl, hN6⟩
        · have hO7 := hO6.from gg0
          have hRI : Hid (∀ (i' : Nat) (y : Value) (a b : Nat), xs[i']? = some y → y.ownBlock = some a → v6.ownBlock = some b → a < b) := fun i' y a b h1 h2 h3 => by
            have hi' : i' < xs.length := (List.getElem?_eq_some_iff.1 h1).1
            have hxl : xs.length = i := by have := Ki.own.1; omega
            obtain ⟨y', l', e1, _, e3⟩ := Ki.kids i' (by omega)
            rw [h1] at e1
            obtain rfl := Option.some.inj e1
            have q1 := (e3.at a h2).2
            have q2 := (hO6.at b h3).1
            have q3 := f5.size
            have q4 : wr.heap.size ≤ wr.drew.heap.size := ((Fr.refl [] wr).drew).size
            omega
          obtain ⟨ad6, cap6, rfl, _⟩ := hO6
          have hRJ : Hid (∀ (i' : Nat) (y : Value) (a b : Nat), xs[i']? = some y → y.ownBlock = some a → (Value.slice ad6 0 0).ownBlock = some b → a < b) := fun i' y a b h1 h2 h3 => hRI.out i' y a b h1 h2 (by cases ad6 <;> exact h3)
          clear hRI
          have hO8 := hO7.kept ((Fr.refl [] w6).alloc (.cells #[.slice ad6 l6.length cap6] 22))
          have K8 := K6.keep ((Fr.refl [] w6).alloc (.cells #[.slice ad6 l6.length cap6] 22))
          have cX : (w6.alloc (.cells #[.slice ad6 l6.length cap6] 22)).cell? ⟨w6.heap.size, 0, none⟩ = some (.slice ad6 l6.length cap6) := by rw [cell_of_row _ _ _ _ _ _ (heap_alloc_new w6 _)]; rfl
          have hL7 : Hid (Lab l6 (pp ++ [kidS K (i + 1)])) := (by rw [hI]; exact hL6 : Lab l6 (pp ++ [kidS K (i + 1)]))
          clear hL6 K6 Ki hO7
          generalize l6.length = n6 at *
          go_wp2_with (refine wp_appL rfl _ _ rfl (.slice a8 i c8) i xs rfl K8.own w6.heap.size 1 (.slice ad6 n6 cap6) rfl cX rfl (by omega) ?_; intro g7 c7 w7 o7 f7 at7 lt7; have K9 := K8.app o7 f7 at7 hL7.out hO8 (fun i' y a b h1 h2 h3 => hRJ.out i' y a b h1 h2 (by cases ad6 <;> exact h3)))
          exact ⟨⟨i + 1, I + 1, _, c7, _, by omega, by omega, by go_num, by rw [← hI], K9⟩, by simp [RowKit.intOf]; omega⟩
        · go_wp2_with fail
          go_ret2
          exact Or.inr ⟨i, hlt, rfl, by rw [HKK.out, hI]; exact hN6, HG.out.trans K6.fr⟩
    · have hlt' : ¬ (I : Int) ≤ (n : Int) := by omega
      obtain rfl : i = n := by omega
      go_wp2_with fail
      go_ret2
      refine Or.inl ⟨_, rfl, xs, ?_⟩
      rw [HKK.out]
      exact Ki.from HG.out

end Go.Proofs.YtddcilmeignlmaaGreatDoor

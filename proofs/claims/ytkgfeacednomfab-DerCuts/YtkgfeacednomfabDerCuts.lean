/- DerCuts returns true for every slice of items and every number: what is cut behind an item is read as far as that; anywhere else it is too short. -/
import Derived.Test.YtkgfeacednomfabDers
import Derived.Test.YtkgfeacednomfabSame
import Derived.Test.YtkgfeacednomfabDerM
import Derived.Test.YtkgfeacednomfabOpenI
namespace Go.Proofs.Ytkgfeacednomfab
open Go.RowKit
open Go.ChangeShapes Go.WideShapes Go.ChangeAt
set_option linter.unusedSimpArgs false
theorem finS_short {b : List Nat} {n s : Nat} (hn : n ≤ 4096) (h : b.length < s + n) : finS b n s = .inl 3 := by
  unfold finS
  rw [if_neg (by omega), if_pos h]
/-- A text that is cut within an item is too short. -/
theorem first_cut (x : It) (k : Nat) (hb : x.body.length ≤ 4096) (hk : k < x.text.length) : firstS (x.text.take k) = .inl 3 := by
  have gd : ∀ j, j < k → (x.text.take k).getD j 0 = x.text.getD j 0 := fun j hj => by
    simp [List.getD_eq_getElem?_getD, List.getElem?_take, hj]
  have hl : (x.text.take k).length = k := by rw [List.length_take]; omega
  unfold firstS
  rw [hl]
  by_cases h2 : k < 2
  · rw [if_pos h2]
  · rw [if_neg h2, gd 1 (by omega)]
    have tl : x.text.length = 1 + (lenB x.body.length).length + x.body.length := by simp [It.text]; omega
    by_cases h1 : x.body.length < 128
    · have e : lenB x.body.length = [x.body.length] := by simp [lenB, h1]
      have g1 : x.text.getD 1 0 = x.body.length := by simp [It.text, e]
      rw [e] at tl
      simp at tl
      rw [g1, if_pos h1]
      exact finS_short hb (by rw [hl]; omega)
    · by_cases h3 : x.body.length < 256
      · have e : lenB x.body.length = [129, x.body.length] := by simp [lenB, h1, h3]
        have g1 : x.text.getD 1 0 = 129 := by simp [It.text, e]
        have g2 : x.text.getD 2 0 = x.body.length := by simp [It.text, e]
        rw [e] at tl
        simp at tl
        rw [g1, if_neg (by omega), if_pos rfl]
        by_cases h4 : k < 3
        · rw [if_pos h4]
        · rw [if_neg h4, gd 2 (by omega), g2, if_neg h1]
          exact finS_short hb (by rw [hl]; omega)
      · have e : lenB x.body.length = [130, x.body.length / 256, x.body.length % 256] := by simp [lenB, h1, h3]
        have g1 : x.text.getD 1 0 = 130 := by simp [It.text, e]
        have g2 : x.text.getD 2 0 = x.body.length / 256 := by simp [It.text, e]
        have g3 : x.text.getD 3 0 = x.body.length % 256 := by simp [It.text, e]
        rw [e] at tl
        simp at tl
        rw [g1, if_neg (by omega), if_neg (by omega), if_pos rfl]
        by_cases h4 : k < 4
        · rw [if_pos h4]
        · have e2 : x.body.length / 256 * 256 + x.body.length % 256 = x.body.length := by omega
          rw [if_neg h4, gd 2 (by omega), gd 3 (by omega), g2, g3, e2, if_neg h3]
          exact finS_short hb (by rw [hl]; omega)
/-- How many bytes the first i items have. -/
def place (l : List It) (i : Nat) : Nat := (texts (l.take i)).length
theorem place_cons (x : It) (l : List It) (i : Nat) : place (x :: l) (i + 1) = x.text.length + place l i := by simp [place, texts]
theorem text_pos (x : It) : 2 ≤ x.text.length := by
  have : 1 ≤ (lenB x.body.length).length := by
    unfold lenB
    by_cases h1 : x.body.length < 128
    · simp [h1]
    · by_cases h2 : x.body.length < 256 <;> simp [h1, h2]
  simp [It.text]
  omega
theorem joinS_nil (s : Sum Nat (List It)) : joinS [] s = s := by cases s <;> rfl
theorem texts_app (l m : List It) : texts (l ++ m) = texts l ++ texts m := by simp [texts]
theorem read_cut : ∀ (l : List It) (r k : Nat), l.length ≤ r → (∀ x ∈ l, x.body.length ≤ 4096) → k ≤ (texts l).length → (∀ i, i ≤ l.length → place l i ≠ k) → readS r ((texts l).take k) = .inl 3
  | [], r, k, _, _, hk, hp => by
    have : k = 0 := by simpa [texts] using hk
    exact absurd (by simp [place, texts, this]) (hp 0 (by simp))
  | x :: l, r, k, hr, hb, hk, hp => by
    obtain ⟨r, rfl⟩ : ∃ q, r = q + 1 := ⟨r - 1, by simp at hr; omega⟩
    have k0 : k ≠ 0 := fun e => hp 0 (by simp) (by simp [place, texts, e])
    have e : texts (x :: l) = x.text ++ texts l := by simp [texts]
    rw [e] at hk ⊢
    rw [List.length_append] at hk
    have ne : (x.text ++ texts l).take k ≠ [] := by
      intro h
      have h1 := congrArg List.length h
      rw [List.length_take, List.length_append, List.length_nil] at h1
      have := text_pos x
      omega
    by_cases hx : k < x.text.length
    · rw [List.take_append_of_le_length (by omega)] at ne ⊢
      rw [← joinS_nil (readS (r + 1) _), readS_err ne (first_cut x k (hb x (by simp)) hx)]
    · have e3 : (x.text ++ texts l).take k = x.text ++ (texts l).take (k - x.text.length) := by
        rw [List.take_append, List.take_of_length_le (by omega)]
      have ih := read_cut l r (k - x.text.length) (by simpa using hr) (fun y hy => hb y (by simp [hy])) (by omega) (fun i hi h => hp (i + 1) (by simp; omega) (by rw [place_cons]; omega))
      rw [e3] at ne ⊢
      rw [← joinS_nil (readS (r + 1) _), readS_step ne (first_text x _ (hb x (by simp))), List.drop_left, ih]
      rfl
theorem read_at {l : List It} {i k : Nat} (h200 : l.length ≤ 200) (hb : ∀ x ∈ l, x.body.length ≤ 4096) (hk : place l i = k) : readS 200 ((texts l).take k) = .inr (l.take i) := by
  have e : texts l = texts (l.take i) ++ texts (l.drop i) := by
    have := texts_app (l.take i) (l.drop i)
    rwa [List.take_append_drop] at this
  have : (texts l).take k = texts (l.take i) := by
    rw [e, ← hk, place, List.take_left]
  rw [this]
  exact readS_back _ 200 (by rw [List.length_take]; omega) (fun x hx => hb x (List.mem_of_mem_take hx))
theorem place_succ {l : List It} {i : Nat} {x : It} (h : l[i]? = some x) : place l (i + 1) = place l i + x.text.length := by
  rw [place, texts_take_succ h, List.length_append, place]
theorem place_le (l : List It) (i : Nat) : place l i ≤ (texts l).length := by
  have := texts_app (l.take i) (l.drop i)
  rw [List.take_append_drop] at this
  rw [place, this, List.length_append]
  omega
theorem Its.take {w : World} {a : Option Addr} {n c i : Nat} {l : List It} (h : Its w (.slice a n c) l) (hi : i ≤ l.length) : Its w (.slice a i c) (l.take i) := by
  obtain ⟨a', c', e, h1, h2, h3⟩ := h
  cases e
  have hl : (l.take i).length = i := by rw [List.length_take]; omega
  refine ⟨a, c, by rw [hl], by omega, h2, fun hp => ?_⟩
  obtain ⟨b, o, e, hc⟩ := h3 (by omega)
  refine ⟨b, o, e, fun j x hx => hc j x ?_⟩
  rw [List.getElem?_take] at hx
  by_cases hj : j < i
  · rwa [if_pos hj] at hx
  · rw [if_neg hj] at hx; cases hx
theorem Its.one_at {w : World} {b o n c i : Nat} {l : List It} {x : It} (h : Its w (.slice (some ⟨b, o, none⟩) n c) l) (hx : l[i]? = some x) : Its w (.slice (some ⟨b, o + i * 2, none⟩) 1 (c - i)) [x] := by
  obtain ⟨a', c', e, h1, h2, h3⟩ := h
  cases e
  have hi : i < l.length := (List.getElem?_eq_some_iff.1 hx).1
  obtain ⟨b', o', e, hc⟩ := h3 (by omega)
  cases e
  obtain ⟨c0, u, c1, hu⟩ := hc i x hx
  refine ⟨_, c - i, rfl, by simp; omega, (fun h => by cases h), fun _ => ⟨b, o + i * 2, rfl, fun j y hy => ?_⟩⟩
  match j, hy with
  | 0, hy =>
    obtain rfl : x = y := by simpa using hy
    exact ⟨by simpa using c0, u, by simpa using c1, hu⟩
set_option maxRecDepth 20000 in
set_option maxHeartbeats 1000000 in
theorem derCuts_law (v : Value) (l : List It) (lo : lowI l) (k : Int) (hk : -9223372036854775808 ≤ k ∧ k ≤ 9223372036854775807) (w : World) (h : Its w v l) :
    Calls Try.prog 6 #[v, .int .i64 k] w fun e w' => e = .returned (.bool true) ∧ Below w.heap.size w w' := by
  obtain ⟨al, cl, rfl, hcl, _, hcell⟩ := id h
  have H : Hid (Its w _ l) := h
  clear h
  go_enter Try.func6, Try.ntmps6
  go_wp2_with fail
  refine (ders_fun w).mono ?_
  rintro e w1 ⟨rfl, hb⟩
  have B1 : Hid (Below w.heap.size w w1) := hb
  clear hb
  go_wp2_with fail
  refine (write_any _ l w1 (H.out.up B1.out (Nat.le_refl _))).mono ?_
  rintro e w2 ⟨⟨u1, n1, rfl, he1⟩, hb⟩
  have B2 : Hid (Below w.heap.size w w2) := B1.out.trans (hb.mono B1.out.size)
  clear hb B1
  rcases he1 with ⟨rfl, ok, hT⟩ | ⟨rfl, _, rfl⟩
  · obtain ⟨au, cu, rfl, hcu, _⟩ := id hT
    have OK : Hid (okIts l) := ok
    have LT : Hid (∀ y ∈ texts l, y < 256) := texts_low ok.2 lo
    have LB : Hid (∀ x ∈ l, ∀ y ∈ x.body, y < 256) := (fun x hx => (lo x hx).2 : ∀ x ∈ l, ∀ y ∈ x.body, y < 256)
    have T : Hid (By w2 _ (texts l)) := hT
    have h200 := ok.1
    clear ok hT lo
    by_cases p1 : (texts l).length ≤ 65536
    · have q1 : ¬ ((texts l).length : Int) > 65536 := by omega
      by_cases p2 : k < 0
      · go_wp2_with fail
        all_goals go_ret
        all_goals exact ⟨rfl, B2.out⟩
      · by_cases p3 : k > ((texts l).length : Int)
        · go_wp2_with fail
          all_goals go_ret
          all_goals exact ⟨rfl, B2.out⟩
        · obtain ⟨n, rfl⟩ : ∃ n : Nat, k = (n : Int) := ⟨k.toNat, by omega⟩
          have p4 : n ≤ (texts l).length := by omega
          have q4 : n ≤ cu := by omega
          have TK : Hid (By w2 (.slice au n cu) ((texts l).take n)) := T.out.take p4
          clear hk p2
          go_wp2_with fail
          refine (read_fun _ ((texts l).take n) (fun y hy => LT.out y (List.mem_of_mem_take hy)) w2 TK.out).mono ?_
          rintro e w3 ⟨he, hb⟩
          have B3 : Hid (Below w.heap.size w w3) := B2.out.trans (hb.mono B2.out.size)
          have hlen : ((texts l).take n).length ≤ 65536 := by rw [List.length_take]; omega
          obtain ⟨u5, n5, rfl, l5, hi5, h5⟩ : ∃ u5 n5, e = .returned (.tuple #[u5, i64 n5]) ∧ ∃ l5, Its w3 u5 l5 ∧ ((n5 = 0 ∧ readS 200 ((texts l).take n) = .inr l5) ∨ (u5 = .slice none 0 0 ∧ readS 200 ((texts l).take n) = .inl n5)) := by
            rcases he with ⟨_, ⟨m, _, hm, rfl⟩ | ⟨m, u, hm, rfl, ho⟩⟩ | ⟨h6, _⟩
            · exact ⟨_, _, rfl, [], ⟨none, 0, rfl, Nat.le_refl _, fun _ => rfl, fun h => absurd h (Nat.lt_irrefl _)⟩, .inr ⟨rfl, hm⟩⟩
            · exact ⟨_, _, rfl, m, ho.its, .inl ⟨rfl, hm⟩⟩
            · omega
          obtain ⟨a5, m5, c5, rfl⟩ : ∃ a m c, u5 = .slice a m c := by
            obtain ⟨a, c, e, _⟩ := hi5
            exact ⟨a, _, c, e⟩
          have I5 : Hid (Its w3 _ l5) := hi5
          have H5 : Hid _ := h5
          clear he hb hi5 h5 hlen B2 T TK LT
          go_wp2_with fail
          go_loopw [9, 10] (fun nn ii wr => ∃ (i : Nat), i ≤ l.length + 1 ∧ ii = .int .i64 i ∧ nn = .int .i64 ((place l i : Nat) : Int) ∧ Hid (∀ j, j < i → place l j ≠ n) ∧ Hid (Below w3.heap.size w3 wr)) (fun _ ii _ => l.length + 1 - (intOf ii).toNat)
          case atStart => exact ⟨0, by omega, rfl, rfl, (fun j hj => absurd hj (by omega) : ∀ j, j < 0 → place l j ≠ n), Below.refl _ _⟩
          case round =>
            obtain ⟨i, hi, rfl, rfl, hne, hb⟩ := hrel
            by_cases r1 : i ≤ l.length
            · have s1 : (i : Int) ≤ (l.length : Int) := by omega
              by_cases r2 : place l i = n
              · have e5 : n5 = 0 ∧ l5 = l.take i := by
                  have := read_at OK.out.1 OK.out.2 r2
                  rcases H5.out with ⟨h1, h2⟩ | ⟨_, h2⟩
                  · rw [this] at h2
                    exact ⟨h1, (Sum.inr.inj h2).symm⟩
                  · rw [this] at h2; cases h2
                obtain ⟨rfl, rfl⟩ := e5
                have r3 : ((place l i : Nat) : Int) = (n : Int) := by omega
                have r4 : i ≤ cl := by omega
                have IT : Hid (Its wr (.slice al i cl) (l.take i)) := ((H.out.up B3.out (Nat.le_refl _)).up hb.out (Nat.le_refl _)).take r1
                have I6 : Hid (Its wr _ (l.take i)) := I5.out.up hb.out (Nat.le_refl _)
                have LK : Hid (∀ x ∈ l.take i, ∀ y ∈ x.body, y < 256) := (fun x hx => LB.out x (List.mem_of_mem_take hx) : ∀ x ∈ l.take i, ∀ y ∈ x.body, y < 256)
                clear hcell H5 OK
                go_wp2_with fail
                refine (same_fun _ _ (l.take i) LK.out (by rw [List.length_take]; omega) wr IT.out I6.out).mono ?_
                rintro e w6 ⟨rfl, hb6⟩
                have B6 : Hid (Below w.heap.size w w6) := (B3.out.trans (hb.out.mono B3.out.size)).trans (hb6.mono (Nat.le_trans B3.out.size hb.out.size))
                clear hb6
                go_wp2_with fail
                go_ret
                exact ⟨rfl, B6.out⟩
              · have r3 : ¬ ((place l i : Nat) : Int) = (n : Int) := by omega
                have r5 : (((place l i : Nat) : Int) == (n : Int)) = false := by simp [r3]
                have NE : Hid (∀ j, j < i + 1 → place l j ≠ n) := by
                  refine (fun j hj => ?_ : ∀ j, j < i + 1 → place l j ≠ n)
                  by_cases e : j = i
                  · rw [e]; exact r2
                  · exact hne.out j (by omega)
                by_cases r6 : i < l.length
                · have s6 : (i : Int) < (l.length : Int) := by omega
                  obtain ⟨x, hx⟩ : ∃ x, l[i]? = some x := ⟨l[i], by simp [r6]⟩
                  obtain ⟨b, o, rfl, _⟩ := hcell (by omega)
                  have s7 : ¬ cl = i := by omega
                  have s8 : i + 1 ≤ cl := by omega
                  have PS : Hid _ := place_succ hx
                  have IX : Hid (Its wr (.slice (some ⟨b, o + i * 2, none⟩) 1 (cl - i)) [x]) := Its.one_at ((H.out.up B3.out (Nat.le_refl _)).up hb.out (Nat.le_refl _)) hx
                  have pl := place_le l i
                  have pl2 : ((place l i : Nat) : Int) ≤ 65536 := by omega
                  have pl0 : (0 : Int) ≤ ((place l i : Nat) : Int) := by omega
                  have xb := OK.out.2 x (List.mem_of_getElem? hx)
                  have xl := x.text_len
                  have x2 : ((x.text.length : Nat) : Int) ≤ 4100 := by omega
                  have x0 : (0 : Int) ≤ ((x.text.length : Nat) : Int) := by omega
                  have OX : Hid (okIts [x]) := (⟨by simp, by simpa using xb⟩ : okIts [x])
                  clear hx xb xl pl
                  generalize place l i = pi at *
                  go_wp2_with fail
                  refine (write_any _ [x] wr IX.out).mono ?_
                  rintro e w4 ⟨⟨u6, n6, rfl, he6⟩, hb6⟩
                  rcases he6 with ⟨rfl, _, hT6⟩ | ⟨_, hno, _⟩
                  · rw [show texts [x] = x.text by simp [texts]] at hT6
                    obtain ⟨a6, c6, rfl, _⟩ := hT6
                    have B4 : Hid (Below w3.heap.size w3 w4) := hb.out.trans (hb6.mono hb.out.size)
                    clear hb6 hb IX OX
                    go_wp2_with fail
                    go_roundw
                    case rel =>
                      refine ⟨i + 1, by omega, by go_num, ?_, NE, B4⟩
                      have := PS.out
                      go_num
                    case measure => simp [intOf]; omega
                  · exact absurd OX.out hno
                · have s6 : ¬ (i : Int) < (l.length : Int) := by omega
                  have e1 : place l (i + 1) = place l i := by
                    unfold place
                    rw [List.take_of_length_le (by omega), List.take_of_length_le (by omega)]
                  have E1 : Hid _ := e1
                  clear e1 hcell
                  go_wp2_with fail
                  go_roundw
                  case rel => exact ⟨i + 1, by omega, by go_num, by rw [E1.out], NE, hb⟩
                  case measure => simp [intOf]; omega
            · have s1 : ¬ (i : Int) ≤ (l.length : Int) := by omega
              have e5 : n5 = 3 ∧ Value.slice a5 m5 c5 = .slice none 0 0 := by
                have := read_cut l 200 n OK.out.1 OK.out.2 p4 (fun j hj => hne.out j (by omega))
                rcases H5.out with ⟨h1, h2⟩ | ⟨h1, h2⟩
                · rw [this] at h2; cases h2
                · rw [this] at h2
                  exact ⟨(Sum.inl.inj h2).symm, h1⟩
              obtain ⟨rfl, e6⟩ := e5
              cases e6
              have B6 : Hid (Below w.heap.size w wr) := B3.out.trans (hb.out.mono B3.out.size)
              clear hcell H5 I5
              go_wp2_with fail
              go_ret
              exact ⟨rfl, B6.out⟩
    · have q1 : ((texts l).length : Int) > 65536 := by omega
      go_wp2_with fail
      all_goals go_ret
      all_goals exact ⟨rfl, B2.out⟩
  · go_wp2_with fail
    go_ret
    exact ⟨rfl, B2.out⟩
set_option maxRecDepth 100000 in
theorem derCuts_lifted (os : Os) (started : os.Started) (H : Type) (enc : TypeId × Value → H) :
    ReturnsInHanded {} Try.checked os 6 .any (Rows.derCutsSpec.pre6 enc Try.prog Try.f6 Rows.derCutsRow.domain false) (Rows.derCutsSpec.post enc Try.prog Try.f6 false true false false) := by
  refine returnsInHanded_of_change (C := Try.checked) Try.own started (by kernel_rfl) Try.func6
    (ChangeSpec.witness6 (enc := enc) (C := Try.checked) false ⟨#[], #[.slice none 0 0, .int .i64 0], []⟩ 8 (by kernel_rfl) (by kernel_rfl) (by kernel_rfl) (by kernel_rfl)) ?_
  intro W base args ds gs before hval0 hW hcnd _
  have hval : ∀ (j : Nat) t v, Try.f6.params[j]? = some t → args[j]? = some v → Value.okWide Try.prog W .any base t v := hval0
  have hW' := hW
  obtain ⟨p, q, hA0, hV, rfl, hfz, hnd⟩ := hW
  have hA : DataW.TrodAll enc Try.prog W 0 (fun _ => true) true Try.f6.params.toList args.toList ds p := hA0
  rw [Try.params6] at hA hval
  obtain ⟨v0, v1, d0, d1, p0, p1, rfl, rfl, rfl, h0, h1⟩ := trodAll_two hA
  obtain ⟨rfl, rfl⟩ := trodVars_none hV
  simp only [List.append_nil] at hW'
  have hlt : ∀ x ∈ p0 ++ p1, x.block < W.heap.size := fun x hx => by simpa using hW'.lt x (by simpa using hx)
  have hk0 : ∀ W' : World, Below W.heap.size W W' → DataW.Trod enc Try.prog W' 0 (fun b => decide (b < W.heap.size)) true 23 v0 d0 p0 := fun W' hn => Below.trod Try.laidOut (by kernel_rfl) (of_decide_eq_true (by kernel_rfl)) h0 hn (fun x hx => hlt x (by simp [hx]))
  obtain ⟨a0, n0, c0, rfl⟩ := okWide_slice Try.uItems (hval 0 23 v0 rfl rfl)
  obtain ⟨fuel0, hf0⟩ := h0
  obtain ⟨l0, low0, hI0⟩ := its_of_trod (v := .slice a0 n0 c0) (by simpa [Value.cells] using hf0)
  obtain ⟨x1, rfl, rfl, rfl, w1⟩ := open_int Try.underlying3 (hval 1 3 v1 rfl rfl) h1
  refine (derCuts_law _ l0 low0 x1 (int_of_wf w1) W hI0).mono fun e W' ⟨he, hg⟩ => ?_
  subst he
  exact ⟨_, rfl, _, _, _, [], _, [], hW', trodAll_mk1 (shut_bool Try.underlying4 _), trodAll_mk2 (hk0 _ hg) (shut_int Try.underlying3 w1), rfl, hg.frame _, fun h => by cases h⟩

theorem derCuts_holds : Rows.DerCutsSaid :=
  OpenClaim.holds_of_wide 6 Try.f6 rfl rfl rfl rfl rfl rfl rfl ⟨rfl, rfl, rfl, rfl, rfl⟩ rfl rfl rfl rfl rfl (by kernel_rfl) Try.func6 (by kernel_rfl)
    (of_decide_eq_true (by kernel_rfl)) (by unfold Func.isWrapper; first | (rw [if_pos (by decide +kernel)]; kernel_rfl) | (rw [if_neg (by decide +kernel)]; exact ⟨rfl, rfl⟩))
    (fun os started H enc _ => derCuts_lifted os started H enc)
#print axioms derCuts_holds
end Go.Proofs.Ytkgfeacednomfab

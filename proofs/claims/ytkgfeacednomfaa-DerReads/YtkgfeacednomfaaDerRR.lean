/- The contracts of sealringref.ReadItems, and of SameItems at items that are the same. -/
import Derived.Test.YtkgfeacednomfaaDerRead
import Derived.Test.YtkgfeacednomfaaDerRF
import Derived.Test.YtkgfeacednomfaaUpM
namespace Go.Proofs.Ytkgfeacednomfaa
open Go.RowKit
attribute [local go_sem] YieldsP execOp
attribute [local simp] MP.eq_p
set_option linter.unusedSimpArgs false
def lenSb : Value → Nat
  | .string s => s.size
  | _ => 0
set_option maxRecDepth 20000 in
set_option maxHeartbeats 4000000 in
theorem readItems_some (b0 : List Nat) (low : ∀ x ∈ b0, x < 256) (hm : b0.length ≤ 65536) (w : World) :
    Calls Try.prog 43 #[.string (sOf b0)] w fun e w' => ReadIs b0 w.heap.size e w' ∧ Below w.heap.size w w' := by
  have LO : Hid (∀ x ∈ b0, x < 256) := low
  have sz := sOf_size b0
  have m1 : ¬ ((sOf b0).size : Int) > 65536 := by omega
  clear low hm sz
  go_enter Try.func43, Try.ntmps43
  go_wp2_with fail
  go_loopw [0, 4] (fun bv lv wr => ∃ (b : List Nat) (l : List It), l.length ≤ 200 ∧ bv = .string (sOf b) ∧ Hid (∀ x ∈ b, x < 256) ∧ Hid (readS 200 b0 = joinS l (readS (200 - l.length) b)) ∧ Hid (Oi wr w.heap.size lv l) ∧ Hid (Below w.heap.size w wr)) (fun bv _ _ => lenSb bv)
  case atStart =>
    refine ⟨b0, [], by simp, rfl, LO, ?_, Oi.nil _ _, Below.refl _ _⟩
    have : readS 200 b0 = joinS [] (readS (200 - 0) b0) := by
      cases readS 200 b0 <;> rfl
    exact this
  case round =>
    clear LO
    obtain ⟨b, l, hl, rfl, low, hr, ho, hb⟩ := hrel
    have sz := sOf_size b
    have DR : Hid (∀ n, n ≤ b.length → (sOf b).extract n b.length = sOf (b.drop n)) := by
      intro n hn
      have := sOf_cut (b := b) n b.length (Nat.le_refl _) hn
      rwa [List.take_of_length_le (by simp)] at this
    obtain ⟨al, nl, cl, rfl⟩ : ∃ a n c, u4 = .slice a n c := by
      obtain ⟨a, c, e, _⟩ := ho.out.its
      exact ⟨a, _, c, e⟩
    have hnl : nl = l.length := by
      obtain ⟨a, c, e, _⟩ := ho.out.its
      cases e
      rfl
    subst hnl
    by_cases h0 : b.length = 0
    · have e : b = [] := List.length_eq_zero_iff.1 h0
      subst e
      have E : Hid (readS 200 b0 = .inr l) := by
        have := hr.out
        rw [readS, joinS, List.append_nil] at this
        exact this
      have s0 : (sOf []).size = 0 := rfl
      clear DR sz
      go_wp2_with fail
      go_ret2
      exact ⟨.inr ⟨l, _, E.out, rfl, ho.out⟩, hb.out⟩
    · have i0 : ((sOf b).size : Int) > 0 := by omega
      have ne : b ≠ [] := fun e => h0 (by rw [e]; rfl)
      by_cases h200 : l.length = 200
      · have E : Hid (readS 200 b0 = .inl 2) := by
          have := hr.out
          rw [h200] at this
          match b, ne with
          | x :: b, _ =>
            rw [readS] at this
            exact this
        clear DR sz
        rw [h200]
        go_wp2_with fail
        go_ret2
        exact ⟨.inl ⟨2, .inl rfl, E.out, rfl⟩, hb.out⟩
      · have i1 : ¬ (l.length : Int) = 200 := by omega
        have i2 : ¬ (l.length : Int) ≥ 200 := by omega
        have e1 : 200 - l.length = (200 - (l.length + 1)) + 1 := by omega
        have HR : Hid (readS 200 b0 = joinS l (readS ((200 - (l.length + 1)) + 1) b)) := by
          have := hr.out
          rw [e1] at this
          exact this
        have FI : Hid _ := fun w => firstItem_fun b low.out w
        have SZ : Hid ((sOf b).size = b.length) := sz
        clear hr e1 i1 sz
        generalize hs : sOf b = s at *
        have HS : Hid (sOf b = s) := hs
        clear hs
        go_wp2_with fail
        refine (FI.out _).mono ?_
        rintro e w1 ⟨hf, hb1⟩
        have B1 : Hid (Below w.heap.size w w1) := hb.out.trans (hb1.mono hb.out.size)
        have O1 : Hid (Oi w1 w.heap.size (.slice al l.length cl) l) := ho.out.up hb1
        clear ho
        rcases hf with ⟨n, hn, rfl⟩ | ⟨x, n, u, hn, rfl, hu⟩
        · have n3 := firstS_inl low.out hn
          have E : Hid (readS 200 b0 = .inl n) := HR.out.trans (readS_err ne hn l)
          have N3 : Hid _ := n3
          have nz : ¬ (n : Int) = 0 := by omega
          clear hb hb1 hn n3 DR
          go_wp2_with fail
          go_ret2
          exact ⟨.inl ⟨n, N3.out, E.out, rfl⟩, B1.out.alloc B1.out.size _⟩
        · obtain ⟨n2, nle, _, _, _, _⟩ := firstS_inr low.out hn
          have E : Hid (readS 200 b0 = joinS (l ++ [x]) (readS (200 - (l.length + 1)) (b.drop n))) := HR.out.trans (readS_step ne hn l)
          have U1 : Hid (Bk w1 u x.body) := hu
          obtain ⟨au, cu, rfl⟩ := hu.1.len
          have T : Hid (s.extract n s.size = sOf (b.drop n)) := by
            have := DR.out n nle
            rw [← SZ.out] at this
            exact this
          have nle2 : n ≤ s.size := by rw [SZ.out]; exact nle
          have n0 : (0 : Int) ≤ (n : Int) := by omega
          have LD : Hid (∀ y ∈ b.drop n, y < 256) := (fun y hy => low.out y (List.mem_of_mem_drop hy) : ∀ y ∈ b.drop n, y < 256)
          clear hb hb1 hn low hu HR DR
          go_wp2_with (at_builtin; refine wp_appI rfl _ _ rfl w.heap.size _ l x (.slice au x.body.length cu) (w1.heap.size + 1) w1 rfl O1.out (((Below.refl _ _).alloc (Nat.le_refl _) _).alloc (by simp) _) rfl ((cell_top (by simp)).trans (by simp)) ((cell_top (by simp)).trans (by simp)) (U1.out.up (((Below.refl _ _).alloc (Nat.le_refl _) _).alloc (by simp) _)) rfl (by omega) B1.out.size ?_)
          intro v2 w2 o2 g2 b2
          have O2 : Hid (Oi w2 w.heap.size v2 (l ++ [x])) := o2
          have B2 : Hid (Below w.heap.size w w2) := B1.out.trans b2
          clear o2 g2 b2 O1 U1 B1
          go_wp2_with fail
          go_roundw
          case rel =>
            refine ⟨b.drop n, l ++ [x], by simp; omega, by rw [T.out], LD, ?_, O2, B2⟩
            have := E.out
            have e : (l ++ [x]).length = l.length + 1 := by simp
            rw [e]
            exact this
          case measure =>
            have := SZ.out
            simp [lenSb]
            omega
set_option maxHeartbeats 1000000 in
theorem readItems_large (s : ByteArray) (h : 65536 < s.size) (w : World) :
    Calls Try.prog 43 #[.string s] w fun e w' => e = .returned (.tuple #[.slice none 0 0, i64 2]) ∧ Below w.heap.size w w' := by
  have i2 : (s.size : Int) > 65536 := by omega
  go_enter Try.func43, Try.ntmps43
  go_wp2_with fail
  go_ret2
  exact ⟨rfl, Below.refl _ _⟩
/-- The answer of Read as an error and items. -/
def readR (b : List Nat) : Nat × List It := if 65536 < b.length then (2, []) else match readS 200 b with
  | .inl n => (n, [])
  | .inr l => (0, l)
theorem Its.nil (w : World) : Its w (.slice none 0 0) [] := ⟨none, 0, rfl, Nat.le_refl _, fun _ => rfl, fun h => absurd h (Nat.lt_irrefl _)⟩
theorem readIs_any {b : List Nat} {B : Nat} {e : Ending} {w' : World} (hb : ¬ 65536 < b.length) (h : ReadIs b B e w') : ∃ u, e = .returned (.tuple #[u, i64 (readR b).1]) ∧ Its w' u (readR b).2 := by
  unfold readR
  rw [if_neg hb]
  rcases h with ⟨n, _, hn, rfl⟩ | ⟨l, u, hl, rfl, ho⟩
  · rw [hn]; exact ⟨_, rfl, Its.nil _⟩
  · rw [hl]; exact ⟨_, rfl, ho.its⟩
theorem read_any (v : Value) (b : List Nat) (low : ∀ x ∈ b, x < 256) (w : World) (h : By w v b) :
    Calls Try.prog 42 #[v] w fun e w' => (∃ u, e = .returned (.tuple #[u, i64 (readR b).1]) ∧ Its w' u (readR b).2) ∧ Below w.heap.size w w' := by
  refine (read_fun v b low w h).mono ?_
  rintro e w' ⟨h1, h2⟩
  refine ⟨?_, h2⟩
  rcases h1 with ⟨h3, h4⟩ | ⟨h3, rfl⟩
  · exact readIs_any (by omega) h4
  · unfold readR
    rw [if_pos h3]
    exact ⟨_, rfl, Its.nil _⟩
theorem readItems_any (b : List Nat) (low : ∀ x ∈ b, x < 256) (w : World) :
    Calls Try.prog 43 #[.string (sOf b)] w fun e w' => (∃ u, e = .returned (.tuple #[u, i64 (readR b).1]) ∧ Its w' u (readR b).2) ∧ Below w.heap.size w w' := by
  by_cases hb : 65536 < b.length
  · refine (readItems_large (sOf b) (by rw [sOf_size]; exact hb) w).mono ?_
    rintro e w' ⟨rfl, h2⟩
    refine ⟨?_, h2⟩
    unfold readR
    rw [if_pos hb]
    exact ⟨_, rfl, Its.nil _⟩
  · refine (readItems_some b low (by omega) w).mono ?_
    rintro e w' ⟨h1, h2⟩
    exact ⟨readIs_any hb h1, h2⟩
/-- The answer of First as an item, a length and an error. -/
def firstR (b : List Nat) : It × Nat × Nat := match firstS b with
  | .inl n => (⟨0, []⟩, 0, n)
  | .inr (x, n) => (x, n, 0)
theorem firstIs_any {b : List Nat} {e : Ending} {w' : World} (h : FirstIs b e w') : ∃ u, e = .returned (.tuple #[.agg #[b8 (firstR b).1.tag, u], i64 (firstR b).2.1, i64 (firstR b).2.2]) ∧ By w' u (firstR b).1.body := by
  unfold firstR
  rcases h with ⟨n, hn, rfl⟩ | ⟨x, n, u, hn, rfl, hu⟩
  · rw [hn]; exact ⟨_, rfl, By.nil _⟩
  · rw [hn]; exact ⟨_, rfl, hu.1⟩
set_option maxRecDepth 20000 in
set_option maxHeartbeats 4000000 in
theorem sameR_some (l : List It) (b o c b' o' c' : Nat) (w : World)
    (hc : ∀ j x, l[j]? = some x → w.cell? ⟨b, o + j * 2, none⟩ = some (b8 x.tag) ∧ ∃ u, w.cell? ⟨b, o + j * 2 + 1, none⟩ = some u ∧ By w u x.body)
    (hc' : ∀ j x, l[j]? = some x → w.cell? ⟨b', o' + j * 2, none⟩ = some (b8 x.tag) ∧ ∃ u, w.cell? ⟨b', o' + j * 2 + 1, none⟩ = some u ∧ By w u x.body) (hs : l.length ≤ 4611686018427387904) :
    Calls Try.prog 46 #[.slice (some ⟨b, o, none⟩) l.length c, .slice (some ⟨b', o', none⟩) l.length c'] w fun e w' => e = .returned (.bool true) ∧ Below w.heap.size w w' := by
  have HC : Hid _ := hc
  have HC' : Hid _ := hc'
  clear hc hc'
  have ls : (l.length : Int) ≤ 4611686018427387904 := by omega
  clear hs
  go_enter Try.func46, Try.ntmps46
  go_wp2_with fail
  go_loopw [13] (fun i wr => ∃ (k : Nat), k ≤ l.length ∧ i = .int .i64 k ∧ Hid (Below w.heap.size w wr)) (fun i _ => l.length - (intOf i).toNat)
  case atStart => exact ⟨0, by omega, rfl, Below.refl _ _⟩
  case round =>
    obtain ⟨k, hk, rfl, hb⟩ := hrel
    by_cases h1 : k < l.length
    · have i1 : (k : Int) < (l.length : Int) := by omega
      have i0 : (0 : Int) ≤ (k : Int) := by omega
      obtain ⟨x, hx⟩ : ∃ x, l[k]? = some x := ⟨l[k], by simp [h1]⟩
      obtain ⟨c1, u1, c2, hu1⟩ := HC.out k x hx
      obtain ⟨c3, u2, c4, hu2⟩ := HC'.out k x hx
      replace c1 := (hb.out.cell (p := ⟨b, _, none⟩) (lt_of_cellB c1)).trans c1
      replace c2 := (hb.out.cell (p := ⟨b, _, none⟩) (lt_of_cellB c2)).trans c2
      replace c3 := (hb.out.cell (p := ⟨b', _, none⟩) (lt_of_cellB c3)).trans c3
      replace c4 := (hb.out.cell (p := ⟨b', _, none⟩) (lt_of_cellB c4)).trans c4
      have V1 : Hid (∀ W, Below wr.heap.size wr W → (convert 57 9 u1).run Try.prog W = .ok (.string (sOf x.body)) W) := fun W hW => bytes_conv ((hu1.up hb.out (Nat.le_refl _)).up hW (Nat.le_refl _))
      have V2 : Hid (∀ W, Below wr.heap.size wr W → (convert 57 9 u2).run Try.prog W = .ok (.string (sOf x.body)) W) := fun W hW => bytes_conv ((hu2.up hb.out (Nat.le_refl _)).up hW (Nat.le_refl _))
      clear hu1 hu2 hx
      obtain ⟨q1, q2, q3, q4⟩ : Hid (wr.cell? _ = _) ∧ Hid (wr.cell? _ = _) ∧ Hid (wr.cell? _ = _) ∧ Hid (wr.cell? _ = _) := ⟨c1, c2, c3, c4⟩
      clear c1 c2 c3 c4
      go_wp2_with fail
      refine wp_region_monoE [MP.eq (.slice (some ⟨b, o, none⟩) l.length c), MP.eq (.int .i64 (k : Int)), MP.eq (.pointer (some ⟨b, o + k * 2, none⟩)), MP.eq (.pointer (some ⟨b, o + k * 2, none⟩)), MP.eq (b8 x.tag), MP.eq (.slice (some ⟨b', o', none⟩) l.length c'), MP.eq (.int .i64 (k : Int)), MP.eq (.pointer (some ⟨b', o' + k * 2, none⟩)), MP.eq (.pointer (some ⟨b', o' + k * 2, none⟩)), MP.eq (b8 x.tag), MP.eq (.bool false), MP.eq (.bool false), MP.eq (.slice (some ⟨b, o, none⟩) l.length c), MP.eq (.int .i64 (k : Int)), MP.eq (.pointer (some ⟨b, o + k * 2, none⟩)), MP.eq (.pointer (some ⟨b, o + k * 2 + 1, none⟩)), MP.eq (u1), MP.eq (.string (sOf x.body)), MP.eq (.slice (some ⟨b', o', none⟩) l.length c'), MP.eq (.int .i64 (k : Int)), MP.eq (.pointer (some ⟨b', o' + k * 2, none⟩)), MP.eq (.pointer (some ⟨b', o' + k * 2 + 1, none⟩)), MP.eq (u2), MP.eq (.string (sOf x.body)), MP.eq (.bool false), MP.eq (.bool false)] (by kernel_rfl) (by kernel_rfl) rfl ?_
      apply Exists.intro
      refine ⟨fun vals => ?_, ?_, fun vals3 w3 hb3 hF => ?_⟩
      · simp only [putsV, dstL, List.length_cons, List.length_nil, Nat.zero_add, Nat.reduceAdd, List.getElem?_cons_zero, List.getElem?_cons_succ, Option.bind_some, Act.put, List.setIfInBounds_toArray, List.set_cons_succ, List.set_cons_zero]
        rfl
      · refine ⟨?_, ?_, ?_, ?_, ?_, ?_, ?_, ?_, ?_, ?_, ?_, ?_, ?_, ?_, ?_, ?_, ?_, ?_, ?_, ?_, ?_, ?_, ?_, ?_, ?_, ?_, trivial⟩
        · intro vals W hW hw hd
          try simp [Region.binds] at hd
          refine ⟨by first | rfl | simp [Region.wanted, yielded, hd], ?_⟩
          simp [go_sem, hd]
          exact Below.refl _ _
        · intro vals W hW hw hd
          try simp [Region.binds] at hd
          refine ⟨by first | rfl | simp [Region.wanted, yielded, hd], ?_⟩
          simp [go_sem, hd]
          exact Below.refl _ _
        · intro vals W hW hw hd
          try simp [Region.binds] at hd
          refine ⟨by first | rfl | simp [Region.wanted, yielded, hd], ?_⟩
          simp [go_sem, hd, i0, i1]
          exact Below.refl _ _
        · intro vals W hW hw hd
          try simp [Region.binds] at hd
          refine ⟨by first | rfl | simp [Region.wanted, yielded, hd], ?_⟩
          simp [go_sem, hd]
          exact Below.refl _ _
        · intro vals W hW hw hd
          try simp [Region.binds] at hd
          refine ⟨by first | rfl | simp [Region.wanted, yielded, hd], ?_⟩
          have u0 := (hW.out.cell (p := ⟨b, o + k * 2, none⟩) (lt_of_cellB q1.out)).trans q1.out
          simp [go_sem, hd, u0]
          exact Below.refl _ _
        · intro vals W hW hw hd
          try simp [Region.binds] at hd
          refine ⟨by first | rfl | simp [Region.wanted, yielded, hd], ?_⟩
          simp [go_sem, hd]
          exact Below.refl _ _
        · intro vals W hW hw hd
          try simp [Region.binds] at hd
          refine ⟨by first | rfl | simp [Region.wanted, yielded, hd], ?_⟩
          simp [go_sem, hd]
          exact Below.refl _ _
        · intro vals W hW hw hd
          try simp [Region.binds] at hd
          refine ⟨by first | rfl | simp [Region.wanted, yielded, hd], ?_⟩
          simp [go_sem, hd, i0, i1]
          exact Below.refl _ _
        · intro vals W hW hw hd
          try simp [Region.binds] at hd
          refine ⟨by first | rfl | simp [Region.wanted, yielded, hd], ?_⟩
          simp [go_sem, hd]
          exact Below.refl _ _
        · intro vals W hW hw hd
          try simp [Region.binds] at hd
          refine ⟨by first | rfl | simp [Region.wanted, yielded, hd], ?_⟩
          have u0 := (hW.out.cell (p := ⟨b', o' + k * 2, none⟩) (lt_of_cellB q3.out)).trans q3.out
          simp [go_sem, hd, u0]
          exact Below.refl _ _
        · intro vals W hW hw hd
          try simp [Region.binds] at hd
          refine ⟨by first | rfl | simp [Region.wanted, yielded, hd], ?_⟩
          simp [go_sem, hd]
          exact Below.refl _ _
        · intro vals W hW hw hd
          try simp [Region.binds] at hd
          refine ⟨by first | rfl | simp [Region.wanted, yielded, hd], ?_⟩
          simp [go_sem, hd]
          exact Below.refl _ _
        · intro vals W hW hw hd
          try simp [Region.binds] at hd
          refine ⟨by first | rfl | simp [Region.wanted, yielded, hd], ?_⟩
          simp [go_sem, hd]
          exact Below.refl _ _
        · intro vals W hW hw hd
          try simp [Region.binds] at hd
          refine ⟨by first | rfl | simp [Region.wanted, yielded, hd], ?_⟩
          simp [go_sem, hd]
          exact Below.refl _ _
        · intro vals W hW hw hd
          try simp [Region.binds] at hd
          refine ⟨by first | rfl | simp [Region.wanted, yielded, hd], ?_⟩
          simp [go_sem, hd, i0, i1]
          exact Below.refl _ _
        · intro vals W hW hw hd
          try simp [Region.binds] at hd
          refine ⟨by first | rfl | simp [Region.wanted, yielded, hd], ?_⟩
          simp [go_sem, hd]
          exact Below.refl _ _
        · intro vals W hW hw hd
          try simp [Region.binds] at hd
          refine ⟨by first | rfl | simp [Region.wanted, yielded, hd], ?_⟩
          have u0 := (hW.out.cell (p := ⟨b, o + k * 2 + 1, none⟩) (lt_of_cellB q2.out)).trans q2.out
          simp [go_sem, hd, u0]
          exact Below.refl _ _
        · intro vals W hW hw hd
          try simp [Region.binds] at hd
          refine ⟨by first | rfl | simp [Region.wanted, yielded, hd], ?_⟩
          have cv := V1.out W hW.out
          simp [go_sem, hd, cv]
          exact Below.refl _ _
        · intro vals W hW hw hd
          try simp [Region.binds] at hd
          refine ⟨by first | rfl | simp [Region.wanted, yielded, hd], ?_⟩
          simp [go_sem, hd]
          exact Below.refl _ _
        · intro vals W hW hw hd
          try simp [Region.binds] at hd
          refine ⟨by first | rfl | simp [Region.wanted, yielded, hd], ?_⟩
          simp [go_sem, hd]
          exact Below.refl _ _
        · intro vals W hW hw hd
          try simp [Region.binds] at hd
          refine ⟨by first | rfl | simp [Region.wanted, yielded, hd], ?_⟩
          simp [go_sem, hd, i0, i1]
          exact Below.refl _ _
        · intro vals W hW hw hd
          try simp [Region.binds] at hd
          refine ⟨by first | rfl | simp [Region.wanted, yielded, hd], ?_⟩
          simp [go_sem, hd]
          exact Below.refl _ _
        · intro vals W hW hw hd
          try simp [Region.binds] at hd
          refine ⟨by first | rfl | simp [Region.wanted, yielded, hd], ?_⟩
          have u0 := (hW.out.cell (p := ⟨b', o' + k * 2 + 1, none⟩) (lt_of_cellB q4.out)).trans q4.out
          simp [go_sem, hd, u0]
          exact Below.refl _ _
        · intro vals W hW hw hd
          try simp [Region.binds] at hd
          refine ⟨by first | rfl | simp [Region.wanted, yielded, hd], ?_⟩
          have cv := V2.out W hW.out
          simp [go_sem, hd, cv]
          exact Below.refl _ _
        · intro vals W hW hw hd
          try simp [Region.binds] at hd
          refine ⟨by first | rfl | simp [Region.wanted, yielded, hd], ?_⟩
          simp [go_sem, hd]
          exact Below.refl _ _
        · intro vals W hW hw hd
          try simp [Region.binds] at hd
          refine ⟨by first | rfl | simp [Region.wanted, yielded, hd], ?_⟩
          simp [go_sem, hd]
          exact Below.refl _ _
      obtain ⟨f0, f1, f2, f3, f4, f5, f6, f7, f8, f9, f10, f11, f12, f13, f14, f15, f16, f17, f18, f19, f20, f21, f22, f23, f24, f25, _⟩ := hF
      simp only [MP.eq_p] at f0 f1 f2 f3 f4 f5 f6 f7 f8 f9 f10 f11 f12 f13 f14 f15 f16 f17 f18 f19 f20 f21 f22 f23 f24 f25
      have B3 : Hid (Below w.heap.size w w3) := hb.out.trans (hb3.out.mono hb.out.size)
      rw [f25]
      clear hb3 f0 f1 f2 f3 f4 f5 f6 f7 f8 f9 f10 f11 f12 f13 f14 f15 f16 f17 f18 f19 f20 f21 f22 f23 f24 f25 q1 q2 q3 q4 V1 V2 hb
      go_wp2_with fail
      go_roundw
      case rel => exact ⟨k + 1, by omega, by go_num, B3⟩
      case measure => simp [intOf]; omega
    · have i1 : ¬ (k : Int) < (l.length : Int) := by omega
      go_wp2_with fail
      go_ret
      exact ⟨rfl, hb.out⟩
set_option maxHeartbeats 1000000 in
theorem sameR_none (a a' : Option Addr) (c c' : Nat) (w : World) :
    Calls Try.prog 46 #[.slice a 0 c, .slice a' 0 c'] w fun e w' => e = .returned (.bool true) ∧ Below w.heap.size w w' := by
  go_enter Try.func46, Try.ntmps46
  go_wp2_with fail
  refine wp_loop_rounds 1 ?_
  rw [rounds_succ]
  go_wp2_with fail
  go_ret
  exact ⟨rfl, Below.refl _ _⟩
/-- sealringref.SameItems: true, at the same items. -/
theorem sameR_fun (u v : Value) (l : List It) (hs : l.length ≤ 4611686018427387904) (w : World) (hu : Its w u l) (hv : Its w v l) :
    Calls Try.prog 46 #[u, v] w fun e w' => e = .returned (.bool true) ∧ Below w.heap.size w w' := by
  obtain ⟨a, c, rfl, h1, h2, h3⟩ := hu
  obtain ⟨a', c', rfl, h1', h2', h3'⟩ := hv
  cases l with
  | nil => exact sameR_none a a' c c' w
  | cons x l =>
    obtain ⟨b, o, rfl, hc⟩ := h3 (by simp)
    obtain ⟨b', o', rfl, hc'⟩ := h3' (by simp)
    exact sameR_some (x :: l) b o c b' o' c' w hc hc' hs
end Go.Proofs.Ytkgfeacednomfaa

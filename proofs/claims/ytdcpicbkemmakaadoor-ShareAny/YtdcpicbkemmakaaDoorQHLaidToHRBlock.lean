/- Texts that were joined: HLaid, HRBlock. -/
import Derived.Test.YtdcpicbkemmakaaDoorQUpToHMix
import Derived.Test.YtdcpicbkemmakaaDoorQArrToHOpen
import Derived.Test.YtdcpicbkemmakaaDoorCards
import Derived.Test.YtdcpicbkemmakaaDoorTie
import Derived.ProofKit
import Derived.LaidMore
import Derived.OpenShut
import Derived.Deep.DeepHandedRow
import Derived.Lib.LaidTab
import Derived.Test.YtdcpicbkemmakaaDoorQBsMkToHRd
import Derived.Test.YtdcpicbkemmakaaDoorQHRW
import Derived.Test.YtdcpicbkemmakaaDoorQUpAToUp3
import Derived.Test.YtdcpicbkemmakaaDoorQUpMToUpS
import Derived.Deep.RegionWith
/- What the listed variables give: the tables of hash and of sealringref lie in their blocks. -/
namespace Go.Proofs.YtdcpicbkemmakaaDoor
open Go.ChangeShapes Go.WideShapes Go.ChangeAt Go.WideMaps Go.WideElems Go.RowKit
theorem gK : Tryd.prog.globalNamed "sealring/hash.rounds" = some 0 := by kernel_rfl
theorem tK : (Tryd.prog.globals[0]?).map (·.type) = some 130 := by kernel_rfl
theorem gR : Tryd.prog.globalNamed "sealring/sealringref.roundNumbers" = some 1 := by kernel_rfl
theorem tR : (Tryd.prog.globals[1]?).map (·.type) = some 130 := by kernel_rfl
theorem cellsU32 : Tryd.prog.cellsOf 98 = 1 := by kernel_rfl
theorem cellsW64 : Tryd.prog.cellsOf 130 = 64 := by kernel_rfl
theorem uU32 : Tryd.prog.underlying 98 = some (.int .u32) := by kernel_rfl
theorem laidK : (Rows.laid_sealring_hash_rounds : DataW Unit) = Lib.tabData .u32 (Kt.map U) := rfl
theorem laidR : (Rows.laid_sealring_sealringref_roundNumbers : DataW Unit) = Lib.tabData .u32 (Kt.map U) := rfl
/-- The table of sealringref lies where it was laid. -/
def RTab (w : World) : Prop := ∀ j, j < 64 → w.cell? ⟨1, j, none⟩ = some (uw (Kt.getD j 0))
theorem RTab.up {W w1 : World} (h : RTab W) {B : Nat} (hb : Below B W w1) (hB : 1 < B) : RTab w1 := fun j hj => (hb.cell (p := ⟨1, j, none⟩) hB).trans (h j hj)
theorem RTab.pos {W : World} (h : RTab W) : 1 < W.heap.size := lt_of_cellB (h 0 (by decide))
theorem getD_U (j : Nat) (hj : j < 64) : (Kt.map U).getD j 0 = U (Kt.getD j 0) := by
  have hl : j < Kt.length := hj
  simp [List.getD_eq_getElem?_getD, List.getElem?_eq_getElem hl]
theorem ktab_head {W : World} {rest : List (String × DataW Unit)} (h : laidMet Tryd.prog (("sealring/hash.rounds", Rows.laid_sealring_hash_rounds) :: rest) W) : KTab W := by
  rw [laidK] at h
  intro j hj
  have := (Lib.tabIs_of_head gK tK u_w64 uU32 cellsU32 cellsW64 h).cell gK j (by simpa [Kt] using hj)
  rw [this, getD_U j hj]
theorem ktab_one {W : World} (h : laidMetH Tryd.prog [("sealring/hash.rounds", Rows.laid_sealring_hash_rounds)] W) : KTab W := ktab_head (rest := []) h
theorem ktab_two {W : World} (h : laidMetH Tryd.prog [("sealring/hash.rounds", Rows.laid_sealring_hash_rounds), ("sealring/sealringref.roundNumbers", Rows.laid_sealring_sealringref_roundNumbers)] W) : KTab W := ktab_head (rest := [("sealring/sealringref.roundNumbers", Rows.laid_sealring_sealringref_roundNumbers)]) h
theorem rtab_two {W : World} (h : laidMetH Tryd.prog [("sealring/hash.rounds", Rows.laid_sealring_hash_rounds), ("sealring/sealringref.roundNumbers", Rows.laid_sealring_sealringref_roundNumbers)] W) : RTab W := by
  have h' : laidMet Tryd.prog [("sealring/hash.rounds", Rows.laid_sealring_hash_rounds), ("sealring/sealringref.roundNumbers", Rows.laid_sealring_sealringref_roundNumbers)] W := h
  obtain ⟨ps, ⟨_, _, _, _, p, q, _, _, _, _, ht, rfl⟩, hn, hp⟩ := h'
  have h2 : laidMet Tryd.prog [("sealring/sealringref.roundNumbers", Rows.laid_sealring_sealringref_roundNumbers)] W := ⟨q, ht, (List.nodup_append.1 hn).2.1, fun b o hm => hp b o (List.mem_append.2 (Or.inr hm))⟩
  rw [laidR] at h2
  intro j hj
  have := (Lib.tabIs_of_head gR tR u_w64 uU32 cellsU32 cellsW64 h2).cell gR j (by simpa [Kt] using hj)
  rw [this, getD_U j hj]
theorem Tryd.bytesU8 : Tryd.prog.bytesOf 5 = 1 := by kernel_rfl
open Go.Deep in
theorem len_of_trod {H : Type} {enc : TypeId × Value → H} {w : World} {base : Nat} {spare : Nat → Bool} {held : Bool} {fuel n c : Nat} {a : Option Addr} {x : DataW H × List MemPlace} (h : DataW.trod enc Tryd.prog w base spare held fuel 25 [.slice a n c] = some x) : (x.1 = .nil ∧ n = 0) ∨ ∃ es sp, x.1 = .slice es sp ∧ es.length = n := by
  rcases open_ints Tryd.uBytes Tryd.uU8 Tryd.cellsU8 h with ⟨hcs, hx⟩ | ⟨a', len, cap, zs, hcs, _, hl, hm, hz, hx, hcell, hwz⟩
  · left
    simp only [List.cons.injEq, Value.slice.injEq, and_true] at hcs
    exact ⟨by rw [hx], hcs.2.1⟩
  · right
    simp only [List.cons.injEq, Value.slice.injEq, and_true] at hcs
    obtain ⟨_, rfl, rfl⟩ := hcs
    refine ⟨_, _, by rw [hx], ?_⟩
    simp only [lits, List.length_map, List.length_take, hz]
    split <;> omega
end Go.Proofs.YtdcpicbkemmakaaDoor

/- The contract of sealringref.block: H behind one more block, by the document's answer. -/
namespace Go.Proofs.YtdcpicbkemmakaaDoor
open Go.RowKit
set_option linter.unusedSimpArgs false
attribute [local go_sem] YieldsP execOp
attribute [local simp] MP.eq_p
/-- What the first k of four bytes make. -/
def accX (bs : List Nat) (i : Nat) : Nat → BitVec 32
  | 0 => 0
  | k + 1 => BitVec.ofNat 32 ((accX bs i k).toNat * 256 + bs.getD (i + k) 0)
theorem turnB {f : FuncId} {n : Int} {g : BitVec 32 → BitVec 32} (h : ∀ (x : BitVec 32) (w : World), Calls Tryd.prog f #[uw x, .int .u64 n] w fun e w' => e = .returned (uw (g x)) ∧ w' = w) (x : BitVec 32) (w : World) :
    Calls Tryd.prog f #[uw x, .int .u64 n] w fun e w' => e = .returned (uw (g x)) ∧ Below w.heap.size w w' :=
  (h x w).mono fun _ _ ⟨he, hw⟩ => ⟨he, by rw [hw]; exact Below.refl _ _⟩
def lenW : Value → Nat
  | .slice _ n _ => n
  | _ => 0
/-- One word in a row of its own. -/
def MP.w1 (x : BitVec 32) : MP := ⟨fun v w => ∃ g, v = .slice (some ⟨g, 0, none⟩) 1 1 ∧ w.cell? ⟨g, 0, none⟩ = some (uw x), fun ⟨g, e, h⟩ hk => ⟨g, e, (hk.cell (p := ⟨g, 0, none⟩) (lt_of_cellB h)).trans h⟩⟩
theorem yields_w1 {o : Oper} {a : Act} {w : World} {x : BitVec 32} {y : Tmp} (ho : o.op = .buildSlice 124 1 #[(0, .tmp y)]) (hx : a.tmps.getD y undef = uw x) : YieldsP Tryd.prog o a w (MP.w1 x).p := by
  have hx' : a.tmps[y]?.getD undef = uw x := by simpa using hx
  have e : (execOp a.eval o).run Tryd.prog w = .ok (.value (.slice (some ⟨w.heap.size, 0, none⟩) 1 1)) (w.alloc (.cells #[uw x] 98)) := by
    unfold execOp
    simp [ho, hx', go_sem]
  unfold YieldsP
  rw [e]
  exact ⟨⟨_, rfl, (cell_top rfl).trans rfl⟩, (Below.refl _ _).alloc (Nat.le_refl _) _⟩
theorem wrap_small (n : Nat) (h : n < 100) : IntKind.i64.wrap ((n : Nat) : Int) = (n : Int) := by
  simp only [IntKind.wrap, IntKind.bits, IntKind.signed]
  simp
  omega
theorem u_quo (x : BitVec 32) (d : Int) (n : Nat) (h : d = ((2 ^ n : Nat) : Int)) : IntKind.u32.wrap ((U x).tdiv d) = U (wshr x n) := by
  rw [Int.tdiv_eq_ediv_of_nonneg (U_nonneg x), h, u_shr]
  exact wrap32 _ (BitVec.isLt _)
theorem Ww.lenW {w : World} {B : Nat} {v : Value} {xs : List (BitVec 32)} (h : Ww w B v xs) : lenW v = xs.length := by
  rcases h.2 with ⟨e, e2⟩ | ⟨g, cap, cur, e, _⟩
  · rw [e]; exact e2.symm
  · rw [e]; rfl
theorem accX_step (bs : List Nat) (i k : Nat) : (U (accX bs i k) * 256 + ((bs.getD (i + k) 0 : Nat) : Int)) % 4294967296 = U (accX bs i (k + 1)) := by
  simp only [accX, U, BitVec.toNat_ofNat]
  omega
theorem accX_all (bs : List Nat) (lb : ∀ j, bs.getD j 0 < 256) (k : Nat) : accX bs (4 * k) 4 = wd bs k := by
  have h0 := lb (4 * k)
  have h1 := lb (4 * k + 1)
  have h2 := lb (4 * k + 2)
  have h3 := lb (4 * k + 3)
  have e1 : (accX bs (4 * k) 1).toNat = bs.getD (4 * k) 0 := by
    show ((BitVec.ofNat 32 0).toNat * 256 + bs.getD (4 * k + 0) 0) % 2 ^ 32 = _
    rw [Nat.add_zero, show (BitVec.ofNat 32 0).toNat = 0 from rfl]
    omega
  have e2 : (accX bs (4 * k) 2).toNat = bs.getD (4 * k) 0 * 256 + bs.getD (4 * k + 1) 0 := by
    show ((accX bs (4 * k) 1).toNat * 256 + bs.getD (4 * k + 1) 0) % 2 ^ 32 = _
    rw [e1]
    omega
  have e3 : (accX bs (4 * k) 3).toNat = (bs.getD (4 * k) 0 * 256 + bs.getD (4 * k + 1) 0) * 256 + bs.getD (4 * k + 2) 0 := by
    show ((accX bs (4 * k) 2).toNat * 256 + bs.getD (4 * k + 2) 0) % 2 ^ 32 = _
    rw [e2]
    omega
  show BitVec.ofNat 32 ((accX bs (4 * k) 3).toNat * 256 + bs.getD (4 * k + 3) 0) = BitVec.ofNat 32 (bs.getD (4 * k) 0 * 16777216 + bs.getD (4 * k + 1) 0 * 65536 + bs.getD (4 * k + 2) 0 * 256 + bs.getD (4 * k + 3) 0)
  exact congrArg (BitVec.ofNat 32) (by omega)
set_option maxRecDepth 20000 in
set_option maxHeartbeats 8000000 in
theorem block_fun (H : R8) (bs : List Nat) (hl : bs.length = 64) (hb : ∀ x ∈ bs, x < 256) (v : Value) (w : World) (hv : Wy w v H.list) (hT : RTab w) :
    Calls Tryd.prog 92 #[v, .string (sOf bs)] w fun e w' => (∃ v', e = .returned v' ∧ Wy w' v' (mixS H bs).list) ∧ Below w.heap.size w w' := by
  have HV : Hid (Wy w v H.list) := hv
  have HT : Hid (RTab w) := hT
  have LB : Hid (∀ j, bs.getD j 0 < 256) := low_at hb
  have SZ : (sOf bs).size = 64 := by rw [sOf_size, hl]
  have SG : Hid (∀ (j : Nat) (h : j < (sOf bs).size), ((sOf bs)[j]'h).toNat = bs.getD j 0) := fun j h => sOf_get hb j h
  clear hv hT hb hl
  generalize sOf bs = tx at *
  go_enter Tryd.func92, Tryd.ntmps92
  go_wp2_with (refine wp_mkW rfl (.const (.int .i64 0)) (.const (.int .i64 64)) rfl rfl rfl ?_)
  intro v1 w1 o1 hb1
  have D1 : Hid (Below w.heap.size w w1) := hb1
  have O1 : Hid (Ww w1 w.heap.size v1 (schd bs 0)) := o1
  clear o1 hb1
  go_wp2_with fail
  go_loopw [5, 6] (fun sv i wr => ∃ k : Nat, k ≤ 16 ∧ i = .int .i64 (4 * k) ∧ Hid (Ww wr w.heap.size sv (schd bs k)) ∧ Hid (Below w.heap.size w wr)) (fun _ i _ => 64 - (intOf i).toNat)
  case atStart => exact ⟨0, by omega, rfl, O1, D1⟩
  case round =>
    clear O1 D1
    obtain ⟨k, hk, rfl, ow, hbr⟩ := hrel
    by_cases hlt : k < 16
    · have t1 : 4 * (k : Int) < 64 := by omega
      go_wp2_with fail
      go_loopw [7, 29] (fun x j wq => ∃ m : Nat, m ≤ 4 ∧ x = uw (accX bs (4 * k) m) ∧ j = .int .i64 m ∧ Hid (Ww wq w.heap.size u5 (schd bs k)) ∧ Hid (Below w.heap.size w wq)) (fun _ j _ => 4 - (intOf j).toNat)
      case atStart => exact ⟨0, by omega, rfl, rfl, ow, hbr⟩
      case round =>
        clear ow hbr
        obtain ⟨m, hm, rfl, rfl, ow, hbr⟩ := hrel
        by_cases hlm : m < 4
        · obtain ⟨q, hq⟩ : ∃ q, q = 4 * k + m := ⟨_, rfl⟩
          have e1 : 4 * (k : Int) + (m : Int) = (q : Int) := by omega
          have y1 : q < tx.size := by omega
          have y2 : (q : Int) < (tx.size : Int) := by omega
          have ST := accX_step bs (4 * k) m
          rw [← hq, ← SG.out q y1] at ST
          have HST : Hid _ := ST
          clear hq ST
          go_wp2_with fail
          go_roundw
          case rel =>
            refine ⟨m + 1, by omega, ?_, by go_num, ow, hbr⟩
            show Value.int .u32 _ = Value.int .u32 _
            rw [← HST.out]
            congr 1
            omega
          case measure => simp [intOf]; omega
        · obtain rfl : m = 4 := by omega
          rw [accX_all bs LB.out k]
          clear hlm hm
          have hc0 : Hid (∀ (C : Array Value) (t : TypeId), C = #[uw (wd bs k)] → (wr.alloc (.cells C t)).cell? ⟨wr.heap.size, 0, none⟩ = some (uw (wd bs k))) := fun C t hC => by rw [cell_top rfl, hC]; rfl
          have SK : Hid (schd bs k ++ [wd bs k] = schd bs (k + 1)) := by
            rw [schd, if_pos hlt]
            exact rfl
          have KL : Hid ((schd bs k).length ≤ 64) := by rw [schd_length]; exact (by omega : k ≤ 64)
          go_wp2_with (refine wp_appW rfl (.tmp 42) (.tmp 44) rfl w.heap.size _ (schd bs k) wr wr.heap.size (wd bs k) rfl ow.out ((Below.refl _ _).alloc (Nat.le_refl _) _) rfl (hc0.out _ _ rfl) KL.out hbr.out.size ?_)
          intro v4 w4 o4 hb4
          rw [SK.out] at o4
          have O4 : Hid (Ww w4 w.heap.size v4 (schd bs (k + 1))) := o4
          have D4 : Hid (Below w.heap.size w w4) := hbr.out.trans hb4
          clear o4 hb4 hc0 SK KL ow hbr
          go_wp2_with fail
          go_roundw
          case rel => exact ⟨k + 1, by omega, by congr 1, O4, D4⟩
          case measure => simp [intOf]; omega
    · obtain rfl : k = 16 := by omega
      clear hlt hk
      rw [show (4 : Int) * ((16 : Nat) : Int) = 64 from rfl]
      go_wp2_with fail
      go_loopw [5] (fun sv wq => ∃ t : Nat, 16 ≤ t ∧ t ≤ 64 ∧ Hid (Ww wq w.heap.size sv (schd bs t)) ∧ Hid (Below w.heap.size w wq)) (fun sv _ => 64 - lenW sv)
      case atStart => exact ⟨16, by omega, by omega, ow, hbr⟩
      case round =>
        clear ow hbr
        obtain ⟨t, ht0, ht1, ow, hbr⟩ := hrel
        obtain ⟨g, cc, e5, gB, hcell⟩ := ow.out.form (by rw [schd_length]; omega)
        rw [schd_length] at e5 hcell
        subst e5
        by_cases hlt : t < 64
        · have q16 := hcell (t - 16) (by omega)
          have q15 := hcell (t - 15) (by omega)
          have q7 := hcell (t - 7) (by omega)
          have q2 := hcell (t - 2) (by omega)
          have NW : Hid (wadd (wadd (wadd ((schd bs t).getD (t - 16) 0) ((schd bs t).getD (t - 7) 0)) (S0 ((schd bs t).getD (t - 15) 0))) (S1 ((schd bs t).getD (t - 2) 0)) = nextW (schd bs t)) := by rw [next_eq]; unfold nextW; rw [schd_length]; exact rfl
          have SN : Hid (schd bs t ++ [nextW (schd bs t)] = schd bs (t + 1)) := by
            rw [schd, if_neg (by omega)]
            exact rfl
          have KL : Hid ((schd bs t).length ≤ 64) := by rw [schd_length]; exact ht1
          generalize (schd bs t).getD (t - 16) 0 = x16 at *
          generalize (schd bs t).getD (t - 15) 0 = x15 at *
          generalize (schd bs t).getD (t - 7) 0 = x7 at *
          generalize (schd bs t).getD (t - 2) 0 = x2 at *
          have e16 : (t : Int) - 16 = ((t - 16 : Nat) : Int) := by omega
          have e15 : (t : Int) - 15 = ((t - 15 : Nat) : Int) := by omega
          have e7 : (t : Int) - 7 = ((t - 7 : Nat) : Int) := by omega
          have e2 : (t : Int) - 2 = ((t - 2 : Nat) : Int) := by omega
          have s3 : U x15 / 8 = U (wshr x15 3) := by simpa using u_shr x15 3
          have s10 : U x2 / 1024 = U (wshr x2 10) := by simpa using u_shr x2 10
          have SH : Hid _ := And.intro s3 s10
          clear s3 s10 hcell
          have gl := lt_of_cellB q16
          go_wp2_with fail
          go_quiet (fail)
          go_wp2_with fail
          obtain ⟨s3, s10⟩ := SH.out
          have NX := NW.out
          generalize nextW (schd bs t) = nx at *
          have i16 : ((t - 16 : Nat) : Int) < (t : Int) := by omega
          have i7 : ((t - 7 : Nat) : Int) < (t : Int) := by omega
          have w16 := wrap_small (t - 16) (by omega)
          have w7 := wrap_small (t - 7) (by omega)
          refine wp_region_monoSE 31 [MP.eq (Value.slice (some ⟨g, 0, none⟩) t cc), MP.eq (Value.slice (some ⟨g, 0, none⟩) t cc), MP.eq (.int .i64 (t : Int)), MP.eq (.int .i64 ((t - 16 : Nat) : Int)), MP.eq (.pointer (some ⟨g, t - 16, none⟩)), MP.eq (uw x16), MP.eq (Value.slice (some ⟨g, 0, none⟩) t cc), MP.eq (.int .i64 (t : Int)), MP.eq (.int .i64 ((t - 7 : Nat) : Int)), MP.eq (.pointer (some ⟨g, t - 7, none⟩)), MP.eq (uw x7), MP.eq (uw (wadd x16 x7)), MP.eq (uw x15), MP.eq (uw (wror x15 7)), MP.eq (uw x15), MP.eq (uw (wror x15 18)), MP.eq (uw (wxor (wror x15 7) (wror x15 18))), MP.eq (uw x15), MP.eq (uw (wshr x15 3)), MP.eq (uw (S0 x15)), MP.eq (uw (wadd (wadd x16 x7) (S0 x15))), MP.eq (uw x2), MP.eq (uw (wror x2 17)), MP.eq (uw x2), MP.eq (uw (wror x2 19)), MP.eq (uw (wxor (wror x2 17) (wror x2 19))), MP.eq (uw x2), MP.eq (uw (wshr x2 10)), MP.eq (uw (S1 x2)), MP.eq (uw nx), MP.w1 nx] (by kernel_rfl) (by kernel_rfl) rfl (by decide) (by kernel_rfl) ?_
          apply Exists.intro
          refine ⟨fun vals => ?_, ?_, fun vals2 w2 hb2 hF hO => ?_⟩
          · simp only [putsV, dstL, List.length_cons, List.length_nil, Nat.zero_add, Nat.reduceAdd, List.getElem?_cons_zero, List.getElem?_cons_succ, Option.bind_some, Act.put, List.setIfInBounds_toArray, List.set_cons_succ, List.set_cons_zero]
            rfl
          · refine ⟨?_, ?_, ?_, ?_, ?_, ?_, ?_, ?_, ?_, ?_, ?_, ?_, ?_, ?_, ?_, ?_, ?_, ?_, ?_, ?_, ?_, ?_, ?_, ?_, ?_, ?_, ?_, ?_, ?_, ?_, ?_, trivial⟩
            · intro vals W hW hw hd
              try simp [Region.binds] at hd
              refine ⟨by first | rfl | simp [Region.wanted, yielded, hd], ?_⟩
              have h5 : vals 32 = Value.slice (some ⟨g, 0, none⟩) t cc := (hw.out 32 (by kernel_rfl)).trans rfl
              simp [go_sem, h5]
              exact Below.refl _ _
            · intro vals W hW hw hd
              try simp [Region.binds] at hd
              refine ⟨by first | rfl | simp [Region.wanted, yielded, hd], ?_⟩
              have h5 : vals 32 = Value.slice (some ⟨g, 0, none⟩) t cc := (hw.out 32 (by kernel_rfl)).trans rfl
              simp [go_sem, h5]
              exact Below.refl _ _
            · intro vals W hW hw hd
              try simp [Region.binds] at hd
              refine ⟨by first | rfl | simp [Region.wanted, yielded, hd], ?_⟩
              simp [go_sem, hd]
              exact Below.refl _ _
            · intro vals W hW hw hd
              try simp [Region.binds] at hd
              refine ⟨by first | rfl | simp [Region.wanted, yielded, hd], ?_⟩
              simp [go_sem, hd, e16, w16]
              exact Below.refl _ _
            · intro vals W hW hw hd
              try simp [Region.binds] at hd
              refine ⟨by first | rfl | simp [Region.wanted, yielded, hd], ?_⟩
              simp [go_sem, hd, i16]
              exact Below.refl _ _
            · intro vals W hW hw hd
              try simp [Region.binds] at hd
              refine ⟨by first | rfl | simp [Region.wanted, yielded, hd], ?_⟩
              simp [go_sem, hd, (hW.out.cell (p := ⟨g, t - 16, none⟩) gl).trans q16]
              exact Below.refl _ _
            · intro vals W hW hw hd
              try simp [Region.binds] at hd
              refine ⟨by first | rfl | simp [Region.wanted, yielded, hd], ?_⟩
              have h5 : vals 32 = Value.slice (some ⟨g, 0, none⟩) t cc := (hw.out 32 (by kernel_rfl)).trans rfl
              simp [go_sem, h5]
              exact Below.refl _ _
            · intro vals W hW hw hd
              try simp [Region.binds] at hd
              refine ⟨by first | rfl | simp [Region.wanted, yielded, hd], ?_⟩
              simp [go_sem, hd]
              exact Below.refl _ _
            · intro vals W hW hw hd
              try simp [Region.binds] at hd
              refine ⟨by first | rfl | simp [Region.wanted, yielded, hd], ?_⟩
              simp [go_sem, hd, e7, w7]
              exact Below.refl _ _
            · intro vals W hW hw hd
              try simp [Region.binds] at hd
              refine ⟨by first | rfl | simp [Region.wanted, yielded, hd], ?_⟩
              simp [go_sem, hd, i7]
              exact Below.refl _ _
            · intro vals W hW hw hd
              try simp [Region.binds] at hd
              refine ⟨by first | rfl | simp [Region.wanted, yielded, hd], ?_⟩
              simp [go_sem, hd, (hW.out.cell (p := ⟨g, t - 7, none⟩) gl).trans q7]
              exact Below.refl _ _
            · intro vals W hW hw hd
              try simp [Region.binds] at hd
              refine ⟨by first | rfl | simp [Region.wanted, yielded, hd], ?_⟩
              simp [go_sem, hd, u_add]
              exact Below.refl _ _
            · intro vals W hW hw hd
              try simp [Region.binds] at hd
              refine ⟨by first | rfl | simp [Region.wanted, yielded, hd], ?_⟩
              simp [go_sem, hd]
              exact Below.refl _ _
            · intro vals W hW hw hd
              try simp [Region.binds] at hd
              refine ⟨by first | rfl | simp [Region.wanted, yielded, hd], ?_⟩
              simp [go_sem, hd]
              exact (turnB turn_7 x15 W).mono fun e w' ⟨he, hb⟩ => ⟨_, he, rfl, hb⟩
            · intro vals W hW hw hd
              try simp [Region.binds] at hd
              refine ⟨by first | rfl | simp [Region.wanted, yielded, hd], ?_⟩
              simp [go_sem, hd]
              exact Below.refl _ _
            · intro vals W hW hw hd
              try simp [Region.binds] at hd
              refine ⟨by first | rfl | simp [Region.wanted, yielded, hd], ?_⟩
              simp [go_sem, hd]
              exact (turnB turn_18 x15 W).mono fun e w' ⟨he, hb⟩ => ⟨_, he, rfl, hb⟩
            · intro vals W hW hw hd
              try simp [Region.binds] at hd
              refine ⟨by first | rfl | simp [Region.wanted, yielded, hd], ?_⟩
              simp [go_sem, hd, u_xor]
              exact Below.refl _ _
            · intro vals W hW hw hd
              try simp [Region.binds] at hd
              refine ⟨by first | rfl | simp [Region.wanted, yielded, hd], ?_⟩
              simp [go_sem, hd]
              exact Below.refl _ _
            · intro vals W hW hw hd
              try simp [Region.binds] at hd
              refine ⟨by first | rfl | simp [Region.wanted, yielded, hd], ?_⟩
              simp [go_sem, hd, u_quo x15 8 3 rfl]
              exact Below.refl _ _
            · intro vals W hW hw hd
              try simp [Region.binds] at hd
              refine ⟨by first | rfl | simp [Region.wanted, yielded, hd], ?_⟩
              simp [go_sem, hd, u_xor, S0]
              exact Below.refl _ _
            · intro vals W hW hw hd
              try simp [Region.binds] at hd
              refine ⟨by first | rfl | simp [Region.wanted, yielded, hd], ?_⟩
              simp [go_sem, hd, u_add]
              exact Below.refl _ _
            · intro vals W hW hw hd
              try simp [Region.binds] at hd
              refine ⟨by first | rfl | simp [Region.wanted, yielded, hd], ?_⟩
              simp [go_sem, hd]
              exact Below.refl _ _
            · intro vals W hW hw hd
              try simp [Region.binds] at hd
              refine ⟨by first | rfl | simp [Region.wanted, yielded, hd], ?_⟩
              simp [go_sem, hd]
              exact (turnB turn_17 x2 W).mono fun e w' ⟨he, hb⟩ => ⟨_, he, rfl, hb⟩
            · intro vals W hW hw hd
              try simp [Region.binds] at hd
              refine ⟨by first | rfl | simp [Region.wanted, yielded, hd], ?_⟩
              simp [go_sem, hd]
              exact Below.refl _ _
            · intro vals W hW hw hd
              try simp [Region.binds] at hd
              refine ⟨by first | rfl | simp [Region.wanted, yielded, hd], ?_⟩
              simp [go_sem, hd]
              exact (turnB turn_19 x2 W).mono fun e w' ⟨he, hb⟩ => ⟨_, he, rfl, hb⟩
            · intro vals W hW hw hd
              try simp [Region.binds] at hd
              refine ⟨by first | rfl | simp [Region.wanted, yielded, hd], ?_⟩
              simp [go_sem, hd, u_xor]
              exact Below.refl _ _
            · intro vals W hW hw hd
              try simp [Region.binds] at hd
              refine ⟨by first | rfl | simp [Region.wanted, yielded, hd], ?_⟩
              simp [go_sem, hd]
              exact Below.refl _ _
            · intro vals W hW hw hd
              try simp [Region.binds] at hd
              refine ⟨by first | rfl | simp [Region.wanted, yielded, hd], ?_⟩
              simp [go_sem, hd, u_quo x2 1024 10 rfl]
              exact Below.refl _ _
            · intro vals W hW hw hd
              try simp [Region.binds] at hd
              refine ⟨by first | rfl | simp [Region.wanted, yielded, hd], ?_⟩
              simp [go_sem, hd, u_xor, S1]
              exact Below.refl _ _
            · intro vals W hW hw hd
              try simp [Region.binds] at hd
              refine ⟨by first | rfl | simp [Region.wanted, yielded, hd], ?_⟩
              simp [go_sem, hd, u_add, NX]
              exact Below.refl _ _
            · intro vals W hW hw hd
              try simp [Region.binds] at hd
              refine ⟨by first | rfl | simp [Region.wanted, yielded, hd], ?_⟩
              refine yields_w1 rfl ?_
              simp [hd]
          obtain ⟨f0, f1, f2, f3, f4, f5, f6, f7, f8, f9, f10, f11, f12, f13, f14, f15, f16, f17, f18, f19, f20, f21, f22, f23, f24, f25, f26, f27, f28, f29, f30, _⟩ := hF
          simp only [MP.eq_p] at f0 f1 f2 f3 f4 f5 f6 f7 f8 f9 f10 f11 f12 f13 f14 f15 f16 f17 f18 f19 f20 f21 f22 f23 f24 f25 f26 f27 f28 f29
          obtain ⟨g1, f30, c1⟩ := f30
          rw [f0, f30]
          simp only [List.drop_succ_cons, List.drop_zero]
          have B2 : Hid (Below wr.heap.size wr w2) := (below_drewN (Below.refl _ _)).trans hb2.out
          have C1 : Hid (w2.cell? ⟨g1, 0, none⟩ = some (uw nx)) := c1
          clear f0 f1 f2 f3 f4 f5 f6 f7 f8 f9 f10 f11 f12 f13 f14 f15 f16 f17 f18 f19 f20 f21 f22 f23 f24 f25 f26 f27 f28 f29 f30 c1 hb2 q16 q15 q7 q2 hO NW SH
          go_wp2_with (refine wp_appW rfl (.tmp 61) (.tmp 91) rfl w.heap.size _ (schd bs t) wr g1 nx rfl ow.out B2.out rfl C1.out KL.out hbr.out.size ?_)
          intro v4 w4 o4 hb4
          rw [SN.out] at o4
          have O4 : Hid (Ww w4 w.heap.size v4 (schd bs (t + 1))) := o4
          have D4 : Hid (Below w.heap.size w w4) := hbr.out.trans hb4
          have L4 : Hid (lenW v4 = t + 1) := by have := o4.lenW; rw [schd_length] at this; exact this
          clear o4 hb4 SN KL ow hbr B2 C1
          go_wp2_with fail
          go_roundw
          case rel => exact ⟨t + 1, by omega, by omega, O4, D4⟩
          case measure => rw [L4.out]; show 64 - (t + 1) < 64 - t; omega
        · obtain rfl : t = 64 := by omega
          clear hlt ht0 ht1
          obtain ⟨kb, ko, kc, rfl, d0, d1, d2, d3, d4, d5, d6, d7⟩ := (HV.out.up hbr.out (Nat.le_refl _)).eight
          have HC : Hid _ := hcell
          have TT : Hid (RTab wr) := HT.out.up hbr.out HT.out.pos
          have MX : Hid (mixS H bs = H.plus (rds H (schd bs 64) 64)) := rfl
          clear hcell ow
          generalize schd bs 64 = ws at *
          obtain ⟨h0, h1, h2, h3, h4, h5, h6, h7⟩ := H
          simp only at d0 d1 d2 d3 d4 d5 d6 d7
          go_wp2_with fail
          go_quiet (fail)
          go_wp2_with fail
          go_loopw [12, 13, 14, 15, 16, 17, 18, 19, 119] (fun sa sb sc sd se sf sg sh i wq => ∃ k n : Nat, k ≤ 64 ∧ sa = uw (rds ⟨h0, h1, h2, h3, h4, h5, h6, h7⟩ ws k).a ∧ sb = uw (rds ⟨h0, h1, h2, h3, h4, h5, h6, h7⟩ ws k).b ∧ sc = uw (rds ⟨h0, h1, h2, h3, h4, h5, h6, h7⟩ ws k).c ∧ sd = uw (rds ⟨h0, h1, h2, h3, h4, h5, h6, h7⟩ ws k).d ∧ se = uw (rds ⟨h0, h1, h2, h3, h4, h5, h6, h7⟩ ws k).e ∧ sf = uw (rds ⟨h0, h1, h2, h3, h4, h5, h6, h7⟩ ws k).f ∧ sg = uw (rds ⟨h0, h1, h2, h3, h4, h5, h6, h7⟩ ws k).g ∧ sh = uw (rds ⟨h0, h1, h2, h3, h4, h5, h6, h7⟩ ws k).h ∧ i = .int .i64 k ∧ wq = wr.drewN n) (fun _ _ _ _ _ _ _ _ i _ => 64 - (intOf i).toNat)
          case atStart => exact ⟨0, _, by omega, rfl, rfl, rfl, rfl, rfl, rfl, rfl, rfl, rfl, rfl⟩
          case round =>
            obtain ⟨k, n, hk, rfl, rfl, rfl, rfl, rfl, rfl, rfl, rfl, rfl, hw⟩ := hrel
            by_cases hlt : k < 64
            · have RS : Hid (rds ⟨h0, h1, h2, h3, h4, h5, h6, h7⟩ ws (k + 1) = rnd (rds ⟨h0, h1, h2, h3, h4, h5, h6, h7⟩ ws k) (Kt.getD k 0) (ws.getD k 0)) := rfl
              have ck : wr.cell? ⟨1, k, none⟩ = some (uw (Kt.getD k 0)) := by rw [hw]; exact TT.out k hlt
              have cw : wr.cell? ⟨g, k, none⟩ = some (uw (ws.getD k 0)) := by rw [hw]; exact HC.out k hlt
              have HW2 : Hid _ := hw
              clear hw
              generalize rds ⟨h0, h1, h2, h3, h4, h5, h6, h7⟩ ws k = R at *
              generalize Kt.getD k 0 = kk at *
              generalize ws.getD k 0 = xx at *
              obtain ⟨ra, rb, rc, rd, re, rf, rg, rh⟩ := R
              go_wp2_with fail
              go_quiet (first | (go_at_call_of 96 (Value.int IntKind.u64 6); exact Calls.quiet_of_same (turn_6 _ _)) | (go_at_call_of 96 (Value.int IntKind.u64 11); exact Calls.quiet_of_same (turn_11 _ _)) | (go_at_call_of 96 (Value.int IntKind.u64 25); exact Calls.quiet_of_same (turn_25 _ _)) | (go_at_call 97; exact Calls.quiet_of_same (choose_fun re rf rg _)))
              go_wp2_with fail
              simp only [u_xor, u_and, u_addm, u_add3m, u_add4m, u_add5m]
              have RT : Hid (_ = T1 ⟨ra, rb, rc, rd, re, rf, rg, rh⟩ kk xx) := (rfl : wadd (wadd (wadd (wadd rh (wxor (wxor (wror re 6) (wror re 11)) (wror re 25))) (Ch re rf rg)) kk) xx = T1 ⟨ra, rb, rc, rd, re, rf, rg, rh⟩ kk xx)
              rw [RT.out]
              refine (turn_2 _ _).mono ?_
              rintro _ _ ⟨rfl, rfl⟩
              go_wp2_with fail
              refine (turn_13 _ _).mono ?_
              rintro _ _ ⟨rfl, rfl⟩
              go_wp2_with fail
              refine (turn_22 _ _).mono ?_
              rintro _ _ ⟨rfl, rfl⟩
              go_wp2_with fail
              refine (most_fun _ _ _ _).mono ?_
              rintro _ _ ⟨rfl, rfl⟩
              go_wp2_with fail
              go_roundw
              case rel =>
                simp only [u_xor, u_and, u_addm]
                refine ⟨k + 1, n + nq, by omega, ?_, ?_, ?_, ?_, ?_, ?_, ?_, ?_, by go_num, by rw [HW2.out, World.drewN_drewN]⟩ <;> rw [RS.out] <;> rfl
              case measure => simp [intOf]; omega
            · obtain rfl : k = 64 := by omega
              clear hlt hk HC TT
              generalize rds ⟨h0, h1, h2, h3, h4, h5, h6, h7⟩ ws 64 = R at *
              obtain ⟨ra, rb, rc, rd, re, rf, rg, rh⟩ := R
              subst hw
              have kl := lt_of_cellB d0
              go_wp2_with fail
              refine wp_region_then3 40 (by kernel_rfl) (by kernel_rfl) (by kernel_rfl) (by kernel_rfl) (by decide) (fun _ _ d _ _ h => by cases d <;> exact h) ?_
              apply Exists.intro
              refine ⟨fun U' hU f hf hcl => ?_, fun w2 hb2 => ?_⟩
              · have p0 := fun n => ((hf n).out.cell (p := ⟨kb, ko, none⟩) kl).trans d0
                have p1 := fun n => ((hf n).out.cell (p := ⟨kb, ko + 1, none⟩) kl).trans d1
                have p2 := fun n => ((hf n).out.cell (p := ⟨kb, ko + 2, none⟩) kl).trans d2
                have p3 := fun n => ((hf n).out.cell (p := ⟨kb, ko + 3, none⟩) kl).trans d3
                have p4 := fun n => ((hf n).out.cell (p := ⟨kb, ko + 4, none⟩) kl).trans d4
                have p5 := fun n => ((hf n).out.cell (p := ⟨kb, ko + 5, none⟩) kl).trans d5
                have p6 := fun n => ((hf n).out.cell (p := ⟨kb, ko + 6, none⟩) kl).trans d6
                have p7 := fun n => ((hf n).out.cell (p := ⟨kb, ko + 7, none⟩) kl).trans d7
                clear hf
                simp only [List.take_succ_cons, List.take_zero]
                repeat (go_big_quiet_step (fail))
                exact wpQuiet_nil rfl
              simp only [List.drop_succ_cons, List.drop_zero]
              have D2 : Hid (Below w.heap.size w w2) := (below_drewN hbr.out).trans (hb2.out.mono hbr.out.size)
              clear hb2 hbr
              go_wp2_with fail
              simp only [u_addm]
              have YW := al1 w2 #[uw (wadd h0 ra), uw (wadd h1 rb), uw (wadd h2 rc), uw (wadd h3 rd), uw (wadd h4 re), uw (wadd h5 rf), uw (wadd h6 rg), uw (wadd h7 rh)] 98
              go_ret
              refine ⟨⟨_, rfl, ?_⟩, D2.out.trans (YW.2.mono D2.out.size)⟩
              rw [MX.out]
              exact Wy.of_blk (ws := (R8.plus ⟨h0, h1, h2, h3, h4, h5, h6, h7⟩ ⟨ra, rb, rc, rd, re, rf, rg, rh⟩).list) YW.1
end Go.Proofs.YtdcpicbkemmakaaDoor

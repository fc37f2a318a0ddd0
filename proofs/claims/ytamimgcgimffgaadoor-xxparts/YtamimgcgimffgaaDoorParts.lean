/-
  XxParts walked: in whatever parts bytes are written, and however often one asks meanwhile, it returns true; what was in memory stays.
-/
import Derived.Test.YtamimgcgimffgaaDoorWalks
import Derived.Laws.AppendOwnNone
namespace Go.Proofs.YtamimgcgimffgaaDoor
open Go.ChangeShapes Go.WideShapes Go.ChangeAt Go.RowKit
theorem infoB : (Tryd.prog.info? 5).map (fun i => (i.zero, i.size, i.bytes)) = some (some (.int .u8 0), 1, 1) := by kernel_rfl
theorem b8_app (l c : List Nat) : b8 (l ++ c) = b8 l ++ b8 c := by simp [b8]
/-- the row that the call owns reads as l. -/
theorem own_row {w : World} {base n : Nat} {v : Value} {l : List Nat} (h : w.ownsRow base 5 1 v n (b8 l)) : ∃ A cap, v = .slice A n cap ∧ n ≤ cap ∧ Row w A n l ∧ ∀ x, A = some x → base ≤ x.block := by
  have hlen := h.1
  rw [b8_len] at hlen
  rcases h.2 with ⟨rfl, rfl⟩ | ⟨g, cap, cur, rfl, hb, hg, hcap, _⟩
  · exact ⟨none, 0, rfl, Nat.le_refl _, ⟨by omega, fun h0 => absurd h0 (by omega)⟩, fun _ hx => by cases hx⟩
  · refine ⟨_, cap, rfl, hcap, ⟨by omega, fun _ => ⟨g, 0, rfl, fun i hi => ?_⟩⟩, fun x hx => by injection hx with hx; subst hx; exact hb⟩
    rw [Nat.zero_add, h.cellAt i (by omega)]
    have hi' : i < l.length := by omega
    simp [b8, hi']
theorem own_same {w w' : World} {base n : Nat} {v : Value} {xs : List Value} (h : w.ownsRow base 5 1 v n xs) (hs : ∀ k, base ≤ k → k < w.heap.size → w'.heap[k]? = w.heap[k]?) : w'.ownsRow base 5 1 v n xs := by
  refine ⟨h.1, ?_⟩
  rcases h.2 with h0 | ⟨g, cap, cur, hv, hb, hg, r⟩
  · exact .inl h0
  · exact .inr ⟨g, cap, cur, hv, hb, (hs g hb (lt_of_block hg)).trans hg, r⟩
theorem append_row {w : World} {ops : Array Oper} {rest : List Oper} {o : Oper} {a : Act} {Q : Exit → Act → World → Prop} (hgd : o.guard = none) (s x : Operand)
    (ho : o.op = .call { callee := .builtin .append, args := #[s, x], argTypes := #[22, 22] }) (base : Nat) (v : Value) (n : Nat) (l : List Nat) (hs : a.eval s = v) (hown : w.ownsRow base 5 1 v n (b8 l))
    (A : Option Addr) (m c : Nat) (hx : a.eval x = .slice A m c) (cs : List Nat) (hrow : Row w A m cs) (hnil : A = none → m = 0 ∧ c = 0) (hnm : n + m ≤ 1000000) (hbase : base ≤ w.heap.size)
    (h : ∀ v' w', w'.ownsRow base 5 1 v' (n + m) (b8 (l ++ cs)) → w.grownBy w' v.ownBlock → wpList Tryd.prog ops Q rest (a.put o.dst v') w') : wpList Tryd.prog ops Q (o :: rest) a w := by
  obtain ⟨i0, hi, hz0, hz1, hz2⟩ := info_parts infoB
  cases A with
  | none =>
    obtain ⟨rfl, rfl⟩ := hnil rfl
    obtain rfl : cs = [] := List.eq_nil_of_length_eq_zero hrow.1
    refine wpList_append_own_none hgd s x 22 ho base 5 i0 1 Tryd.underlying22 hi v n _ hs hown hx ?_
    exact h v w (by simpa using hown) ⟨rfl, rfl, rfl, Nat.le_refl _, fun _ _ _ => rfl⟩
  | some ad =>
    refine wpList_append_own w hgd s x 22 ho base 5 i0 (.int .u8 0) 1 1 Tryd.underlying22 hi hz0 hz1 hz2 rfl (by decide) v n _ hs hown ad m c (b8 cs) hx (by rw [b8_len, hrow.1, Nat.mul_one]) ?_ (b8_one cs) (by unfold maxLen; omega) (by omega) hbase ?_
    · intro j u hj
      have hjm : j < m := by
        have := (List.getElem?_eq_some_iff.1 hj).1
        rw [b8_len, hrow.1] at this
        exact this
      obtain ⟨ad', e, hc⟩ := hrow.src m (Nat.le_refl _) (by omega)
      injection e with e
      subst e
      refine hc j u ?_
      rw [List.take_of_length_le (by have := hrow.1; omega)]
      exact hj
    · intro v' w' h1 h2 _
      rw [← b8_app] at h1
      exact h v' w' h1 h2
/-- a part of the argument: a cell of it holds a slice that reads as bytes. -/
def Part (w : World) (b off r : Nat) : Prop := ∃ a m c cs, w.cell? ⟨b, off + r, none⟩ = some (.slice a m c) ∧ Row w a m cs ∧ bytes cs ∧ m ≤ c ∧ (a = none → m = 0 ∧ c = 0)
set_option maxHeartbeats 1600000 in
set_option maxRecDepth 100000 in
theorem parts_walk (a0 : Option Addr) (n cap0 seed : Nat) (w : World) (hP : 0 < n → ∃ b off, a0 = some ⟨b, off, none⟩ ∧ ∀ r, r < n → Part w b off r) (hT : Turns w) (hs : seed < 18446744073709551616) :
    Calls Tryd.prog 4 #[.slice a0 n cap0, .int .u64 seed] w fun e w' => e = .returned (.bool true) ∧ Below w.heap.size w w' := by
  have HP := Lib.hid hP
  have HT := Lib.hid hT
  clear hP hT
  have hpos := HT.out.pos
  by_cases h12 : 12 < n
  · have h12i : (12 : Int) < (n : Int) := by omega
    go_enter Tryd.func4, Tryd.ntmps4
    go_wp2_with fail
    refine (awake_any _ HT.out).mono ?_
    rintro e w1 ⟨rfl, b1⟩
    go_wp2
    go_ret
    exact ⟨rfl, b1⟩
  · have h12i : ¬ (12 : Int) < (n : Int) := by omega
    go_enter Tryd.func4, Tryd.ntmps4
    go_wp2_with fail
    refine (new_any seed hs _).mono ?_
    rintro e w1 ⟨rfl, hd, b1, hz⟩
    have HH := Lib.hid (holds_new hd)
    have HB := Lib.hid b1
    clear hd b1
    obtain ⟨g, hg⟩ : ∃ g, w.heap.size = g := ⟨_, rfl⟩
    rw [hg] at HH hz ⊢
    have HG := Lib.hid hg
    clear hg
    go_wp2
    go_loopw [6, 7] (fun v i wr => ∃ (j : Nat) (L : List Nat), i = .int .i64 j ∧ j ≤ n ∧ wr.ownsRow (g + 1) 5 1 v L.length (b8 L) ∧ bytes L ∧ L.length ≤ 80 * j ∧ Holds wr g seed L ∧ Below w.heap.size w wr ∧ g + 1 ≤ wr.heap.size) (fun _ i _ => n - (intOf i).toNat)
    case atStart => exact ⟨0, [], rfl, by omega, World.ownsRow_nil _ _ _ _, fun _ h => (by cases h), by simp, HH.out, HB.out, by omega⟩
    case round =>
      obtain ⟨j, L, rfl, hjn, hown, hL, hlen, hh, hb, hsz⟩ := hrel
      have HOWN := Lib.hid hown
      have HL := Lib.hid hL
      have HHL := Lib.hid hh
      have HBL := Lib.hid hb
      clear hL hh HH HB
      by_cases hj : j < n
      · obtain ⟨b, off, rfl, hpart⟩ := HP.out (by omega)
        obtain ⟨a, m, c, cs, hcell, hrow, hcs, hmc, hnil⟩ := hpart j hj
        have hcell1 := (hb.cell (p := ⟨b, off + j, none⟩) (cell_lt hcell)).trans hcell
        clear hb hpart
        have HROW := Lib.hid hrow
        have HCS := Lib.hid hcs
        have HNIL := Lib.hid hnil
        have HCELL := Lib.hid hcell
        clear hrow hcs hnil hcell
        by_cases h80 : 80 < m
        · have h80i : (80 : Int) < (m : Int) := by omega
          clear hown
          go_wp2_with fail
          refine (awake_any _ (HT.out.below HBL.out)).mono ?_
          rintro e w2 ⟨rfl, b2⟩
          have HB2 := Lib.hid (bnext HBL.out b2)
          clear b2
          go_wp2
          go_ret
          exact ⟨rfl, HB2.out⟩
        · have h80i : ¬ (80 : Int) < (m : Int) := by omega
          clear hown
          go_wp2_with (first | (at_builtin; refine append_row rfl _ _ rfl (g + 1) _ L.length L rfl HOWN.out a m c rfl cs (HROW.out.below HBL.out HROW.out.lt) HNIL.out (by omega) hsz ?_))
          intro v' w2 hown2 hgrow
          obtain ⟨N, hN⟩ : ∃ N, L.length + m = N := ⟨_, rfl⟩
          rw [hN] at hown2
          have hLN : (L ++ cs).length = N := by rw [List.length_append, HROW.out.1]; exact hN
          have hgw := HG.out
          have hgwr : g < wr.heap.size := by omega
          have hnoown : some g ≠ u6.ownBlock := by
            intro e
            have := (HOWN.out.lt g e.symm).1
            omega
          have HH2 := Lib.hid (HHL.out.only (hgrow.block g hgwr hnoown))
          have HB2 := Lib.hid (HBL.out.grown hgrow HBL.out.size (fun k hk => by have := (HOWN.out.lt k hk).1; omega))
          have hsz2 : g + 1 ≤ w2.heap.size := Nat.le_trans hsz hgrow.size
          clear hgrow hnoown
          obtain ⟨A', cap', rfl, hcap', hrow', hblk'⟩ := own_row hown2
          have HOWN2 := Lib.hid hown2
          have HROW' := Lib.hid hrow'
          have HBLK' := Lib.hid hblk'
          have HLN := Lib.hid hLN
          have HN := Lib.hid hN
          have hcell2 := (HB2.out.cell (p := ⟨b, off + j, none⟩) (cell_lt HCELL.out)).trans HCELL.out
          clear hown2 hrow' hblk' hLN hN hcell1 hgw
          go_wp2_with fail
          refine (write_any g seed L a m c cs _ HH2.out (HROW.out.below HB2.out HROW.out.lt) HCS.out (fun h0 x hx => by have := HROW.out.lt h0 x hx; have := HG.out; omega) (by omega) hmc).mono ?_
          rintro e w3 ⟨rfl, hh3, ho3⟩
          have HH3 := Lib.hid hh3
          have HB3 := Lib.hid (HB2.out.trans (ho3.below (B := w.heap.size) (Nat.le_of_eq HG.out)))
          have HOWN3 := Lib.hid (own_same HOWN2.out (fun k hk _ => ho3.other k (by omega)))
          have HROW3 := Lib.hid (HROW'.out.only ho3 (fun x hx => by have := HBLK'.out x hx; omega))
          have hsz3 : g + 1 ≤ w3.heap.size := by rw [ho3.size]; exact hsz2
          clear hh3 ho3 hcell2
          go_wp2_with fail
          refine (sum_any g seed (L ++ cs) _ HH3.out (bytes_app HL.out HCS.out) (HT.out.below HB3.out) (by rw [HLN.out]; have := HN.out; omega)).mono ?_
          rintro e w4 ⟨rfl, b4⟩
          have HB4 := Lib.hid (bnext HB3.out b4)
          have HOWN4 := Lib.hid (own_same HOWN3.out (fun k _ hk => b4.block k hk))
          have HROW4 := Lib.hid (HROW3.out.below b4 HROW3.out.lt)
          have HH4 := Lib.hid (HH3.out.only (b4.block g (by omega)))
          have hsz4 : g + 1 ≤ w4.heap.size := Nat.le_trans hsz3 b4.size
          clear b4
          go_wp2_with fail
          refine (refsum_any A' N cap' (L ++ cs) seed _ HROW4.out (bytes_app HL.out HCS.out) (by have := HN.out; omega) hcap' hs HROW4.out.lt).mono ?_
          rintro e w5 ⟨rfl, b5⟩
          have HB5 := Lib.hid (bnext HB4.out b5)
          have HOWN5 := Lib.hid (own_same HOWN4.out (fun k _ hk => b5.block k hk))
          have HH5 := Lib.hid (HH4.out.only (b5.block g (by omega)))
          have hsz5 : g + 1 ≤ w5.heap.size := Nat.le_trans hsz4 b5.size
          clear b5
          go_wp2_with fail
          refine (count_any g seed (L ++ cs) _ HH5.out).mono ?_
          rintro e w6 ⟨rfl, rfl⟩
          rw [HLN.out]
          go_wp2
          go_roundw
          case rel => exact ⟨j + 1, L ++ cs, by go_num, by omega, by rw [HLN.out]; exact HOWN5.out, bytes_app HL.out HCS.out, by rw [HLN.out]; have := HN.out; omega, HH5.out, HB5.out, hsz5⟩
          case measure => simp [intOf]; omega
      · obtain ⟨A', cap', rfl, hcap', hrow', hblk'⟩ := own_row hown
        clear hown hrow' hblk' hb
        go_wp2_with fail
        refine (write_nil A' _ cap' _).mono ?_
        rintro e w2 ⟨rfl, rfl⟩
        go_wp2_with fail
        refine (sum_nil _).mono ?_
        rintro e w2 ⟨rfl, rfl⟩
        go_wp2_with fail
        refine (count_nil _).mono ?_
        rintro e w2 ⟨rfl, rfl⟩
        go_wp2_with fail
        refine (awake_any _ (HT.out.below HBL.out)).mono ?_
        rintro e w2 ⟨rfl, b2⟩
        have HB2 := Lib.hid (bnext HBL.out b2)
        clear b2
        go_wp2
        go_ret
        exact ⟨rfl, HB2.out⟩
end Go.Proofs.YtamimgcgimffgaaDoor

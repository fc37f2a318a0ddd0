/-
  FnvOne walked: for every slice of bytes, every place and every byte it returns true; what was in memory stays.
-/
import Derived.Test.YtjigobalghckdaaUndo
import Derived.Laws.AppendOwnNone
import Derived.Laws.OwnMore
namespace Go.Proofs.Ytjigobalghckdaa
open Go.ChangeShapes Go.WideShapes Go.ChangeAt Go.RowKit
theorem infoB : (Try.prog.info? 5).map (fun i => (i.zero, i.size, i.bytes)) = some (some (.int .u8 0), 1, 1) := by kernel_rfl
def b8 (l : List Nat) : List Value := l.map fun b : Nat => Value.int .u8 (b : Int)
theorem b8_len (l : List Nat) : (b8 l).length = l.length := by simp [b8]
theorem b8_one (l : List Nat) : ∀ v ∈ b8 l, v.oneCell' = true := by
  intro v hv
  obtain ⟨b, _, rfl⟩ := List.mem_map.mp hv
  rfl
theorem b8_app (l c : List Nat) : b8 (l ++ c) = b8 l ++ b8 c := by simp [b8]
theorem Row.src {w : World} {a : Option Addr} {n : Nat} {l : List Nat} (h : Row w a n l) (k : Nat) (hk : k ≤ n) (hp : 0 < k) : ∃ ad, a = some ad ∧ ∀ j v, (b8 (l.take k))[j]? = some v → w.cell? (ad.add j) = some v := by
  obtain ⟨b, off, rfl, hc⟩ := h.2 (by omega)
  refine ⟨_, rfl, fun j v hv => ?_⟩
  have hj : j < k := by
    have := (List.getElem?_eq_some_iff.1 hv).1
    rw [b8_len, List.length_take] at this
    omega
  have e : (⟨b, off, none⟩ : Addr).add j = ⟨b, off + j, none⟩ := by unfold Addr.add; split <;> simp_all
  rw [e, hc j (by omega), ← hv]
  simp [b8, hj, List.getElem?_eq_getElem (show j < l.length from by have := h.1; omega)]
theorem append_row {w : World} {ops : Array Oper} {rest : List Oper} {o : Oper} {a : Act} {Q : Exit → Act → World → Prop} (hgd : o.guard = none) (s x : Operand)
    (ho : o.op = .call { callee := .builtin .append, args := #[s, x], argTypes := #[23, 23] }) (base : Nat) (v : Value) (n : Nat) (l : List Nat) (hs : a.eval s = v) (hown : w.ownsRow base 5 1 v n (b8 l))
    (A : Option Addr) (m c : Nat) (hx : a.eval x = .slice A m c) (cs : List Nat) (hrow : Row w A m cs) (hnil : A = none → m = 0 ∧ c = 0) (hnm : n + m ≤ 1000000) (hbase : base ≤ w.heap.size)
    (h : ∀ v' w', w'.ownsRow base 5 1 v' (n + m) (b8 (l ++ cs)) → w.grownBy w' v.ownBlock → wpList Try.prog ops Q rest (a.put o.dst v') w') : wpList Try.prog ops Q (o :: rest) a w := by
  obtain ⟨i0, hi, hz0, hz1, hz2⟩ := info_parts infoB
  cases A with
  | none =>
    obtain ⟨rfl, rfl⟩ := hnil rfl
    obtain rfl : cs = [] := List.eq_nil_of_length_eq_zero hrow.1
    refine wpList_append_own_none hgd s x 23 ho base 5 i0 1 Try.underlying23 hi v n _ hs hown hx ?_
    exact h v w (by simpa using hown) ⟨rfl, rfl, rfl, Nat.le_refl _, fun _ _ _ => rfl⟩
  | some ad =>
    refine wpList_append_own w hgd s x 23 ho base 5 i0 (.int .u8 0) 1 1 Try.underlying23 hi hz0 hz1 hz2 rfl (by decide) v n _ hs hown ad m c (b8 cs) hx (by rw [b8_len, hrow.1, Nat.mul_one]) ?_ (b8_one cs) (by unfold maxLen; omega) (by omega) hbase ?_
    · intro j u hj
      have hjm : j < m := by
        have := (List.getElem?_eq_some_iff.1 hj).1
        rw [b8_len, hrow.1] at this
        exact this
      obtain ⟨ad', e, hc⟩ := hrow.src m (Nat.le_refl _) (by omega)
      injection e with e
      subst e
      refine hc j u ?_
      rw [List.take_of_length_le (by have := hrow.1; omega)]
      exact hj
    · intro v' w' h1 h2 _
      rw [← b8_app] at h1
      exact h v' w' h1 h2
theorem b8_set (l : List Nat) (k x : Nat) : b8 (l.set k x) = (b8 l).set k (.int .u8 (x : Int)) := by simp [b8, List.map_set]
/-- a row of the call's own: where it lies, and that it reads as l. -/
theorem own_at {w : World} {base n : Nat} {v : Value} {l : List Nat} (h : w.ownsRow base 5 1 v n (b8 l)) (hn : 0 < n) : ∃ g cap, v = .slice (some ⟨g, 0, none⟩) n cap ∧ n ≤ cap ∧ base ≤ g ∧ g < w.heap.size := by
  rcases h.2 with ⟨_, h0⟩ | ⟨g, cap, cur, rfl, hb, hg, hcap, _⟩
  · omega
  · exact ⟨g, cap, rfl, hcap, hb, (h.lt g rfl).2⟩
theorem own_reads {w : World} {base n g cap : Nat} {l : List Nat} (h : w.ownsRow base 5 1 (.slice (some ⟨g, 0, none⟩) n cap) n (b8 l)) : Row w (some ⟨g, 0, none⟩) n l := by
  have hlen := h.1
  rw [b8_len] at hlen
  refine ⟨by omega, fun _ => ⟨g, 0, rfl, fun i hi => ?_⟩⟩
  rw [Nat.zero_add, h.cellAt i (by omega)]
  have hi' : i < l.length := by omega
  simp [b8, hi']
theorem empty_own (w : World) : (w.alloc (.cells #[] 5)).ownsRow w.heap.size 5 1 (.slice (some ⟨w.heap.size, 0, none⟩) 0 0) 0 (b8 []) := World.ownsRow_lit w #[] 0 (Nat.le_refl _) (by decide) rfl
/-- both slices can be made strings, place k of the one that came in holds y, and all else of w stands. -/
def Two (w : World) (b off k y : Nat) (s1 s2 : ByteArray) (n cap g cap2 : Nat) (w' : World) : Prop :=
  (convert 23 9 (.slice (some ⟨b, off, none⟩) n cap)).run Try.prog w' = .ok (.string s1) w' ∧ (convert 23 9 (.slice (some ⟨g, 0, none⟩) n cap2)).run Try.prog w' = .ok (.string s2) w' ∧
    w'.cell? ⟨b, off + k, none⟩ = some (.int .u8 (y : Int)) ∧ Below w.heap.size w w'
theorem two_of {w w3 w' : World} {b off k y n cap g cap2 : Nat} {s1 s2 : ByteArray} {l c : List Nat} (h1 : Row w (some ⟨b, off, none⟩) n l) (h2 : Row w3 (some ⟨g, 0, none⟩) n c) (hb : Below w.heap.size w w3)
    (e1 : str l = s1) (e2 : str c = s2) (hk : k < n) (hy : l.getD k 0 = y) (hb' : Below w3.heap.size w3 w') : Two w b off k y s1 s2 n cap g cap2 w' := by
  have hb2 := bnext hb hb' hb.size
  have hr := h1.below hb2
  refine ⟨e1 ▸ string_of_row w' _ n cap l hr, e2 ▸ string_of_row w' _ n cap2 c (h2.below hb'), ?_, hb2⟩
  obtain ⟨b', off', e, hc⟩ := hr.2 (by omega)
  injection e with e
  injection e with e3 e4
  subst e3 e4
  rw [hc k hk, hy]
set_option maxHeartbeats 3200000 in
set_option maxRecDepth 100000 in
theorem one_some (b off n cap : Nat) (l : List Nat) (at_ x : Nat) (w : World) (hr : Row w (some ⟨b, off, none⟩) n l) (hl : bytes l) (ha : at_ < 18446744073709551616) (hx : x < 256) (h0 : 0 < n) (hn : n ≤ 2000) :
    Calls Try.prog 5 #[.slice (some ⟨b, off, none⟩) n cap, .int .u64 at_, .int .u8 x] w fun e w' => e = .returned (.bool true) ∧ Below w.heap.size w w' := by
  obtain ⟨k, hk, hkn⟩ : ∃ k : Nat, wrap64 ((at_ : Int) % (n : Int)) = (k : Int) ∧ k < n := place_of at_ n h0 hn
  have hcv : IntKind.u64.wrap (n : Int) = (n : Int) := by rw [IntKind.wrap_u64]; omega
  have t1 : decide ((2000 : Int) < (n : Int)) = false := decide_eq_false (by omega)
  have t2 : ((n : Int) == 0) = false := by
    rw [beq_eq_false_iff_ne]
    omega
  have HR := Lib.hid hr
  have HL := Lib.hid hl
  clear hr hl
  go_enter Try.func5, Try.ntmps5
  go_wp2_with (first | (at_builtin; refine append_row rfl _ _ rfl w.heap.size _ 0 [] rfl (empty_own w) (some ⟨b, off, none⟩) n cap rfl l (HR.out.below ((Below.refl _ _).alloc (Nat.le_refl _) _)) (fun e => by cases e) (by omega) (by simp) ?_))
  intro v' w2 hown hgrow
  obtain ⟨g, cap2, rfl, hcap2, hg, hg2⟩ := own_at hown h0
  have hB : Below w.heap.size w w2 := ((Below.refl _ _).alloc (Nat.le_refl _) _).grown hgrow (by simp) (fun j hj => by injection hj with hj; exact Nat.le_of_eq hj)
  have hst := hown.stored k (.int .u8 (x : Int))
  rw [← b8_set] at hst
  have hR3 := own_reads hst.1
  have hB3 : Below w.heap.size w (w2.setCell ⟨g, k, none⟩ (.int .u8 (x : Int))) := hB.setCell hg _
  have hcellk := hown.cellAt k (by omega)
  have hfz := hown.frozenAt k
  obtain ⟨s1, hs1⟩ : ∃ s, str l = s := ⟨_, rfl⟩
  obtain ⟨s2, hs2⟩ : ∃ s, str (l.set k x) = s := ⟨_, rfl⟩
  obtain ⟨d1, hd1⟩ : ∃ t, gon 14695981039346656037 l = t := ⟨_, rfl⟩
  obtain ⟨d2, hd2⟩ : ∃ t, gon 14695981039346656037 (l.set k x) = t := ⟨_, rfl⟩
  obtain ⟨y, hy⟩ : ∃ y, l.getD k 0 = y := ⟨_, rfl⟩
  obtain ⟨q1, f1, f2⟩ : ∃ q1 : Bool, ((d1 : Int) == (d2 : Int)) = q1 ∧ ((y : Int) == (x : Int)) = q1 :=
    ⟨_, beq_of (by rw [← hd1, ← hd2, ← hy]; exact gon_set _ l k x (by have := HR.out.1; omega) HL.out hx (by decide)), rfl⟩
  have hck : (b8 l)[k]? = some (.int .u8 (y : Int)) := by
    rw [← hy]
    have hi : k < l.length := by have := HR.out.1; omega
    simp [b8, hi]
  rw [hck] at hcellk
  have hcs : Codes s1 l := hs1 ▸ str_codes l HL.out
  have hcs2 : Codes s2 (l.set k x) := hs2 ▸ str_codes _ (bytes_set HL.out k x hx)
  have hz1 : s1.size ≤ 4611686018427387904 := by rw [← hs1, str_size, HR.out.1]; omega
  have hz2 : s2.size ≤ 4611686018427387904 := by rw [← hs2, str_size, List.length_set, HR.out.1]; omega
  obtain ⟨w3, hw3⟩ : ∃ w3, w2.setCell ⟨g, k, none⟩ (.int .u8 (x : Int)) = w3 := ⟨_, rfl⟩
  rw [hw3] at hR3 hB3
  have K0 : Hid (Two w b off k y s1 s2 n cap g cap2 w3.drew) := two_of HR.out hR3 hB3 hs1 hs2 hkn hy (Below.refl _ _).drew
  have T1 : Hid (∀ w', Two w b off k y s1 s2 n cap g cap2 w' → Calls Try.prog 9 #[.string s1] w' fun e w'' => e = .returned (.int .u64 (d1 : Nat)) ∧ Two w b off k y s1 s2 n cap g cap2 w'') := fun w' h =>
    (text_any s1 l w' hcs HL.out hz1).mono fun _ _ ⟨he, e2⟩ => ⟨by rw [he, hd1], e2 ▸ h⟩
  have T2 : Hid (∀ w', Two w b off k y s1 s2 n cap g cap2 w' → Calls Try.prog 9 #[.string s2] w' fun e w'' => e = .returned (.int .u64 (d2 : Nat)) ∧ Two w b off k y s1 s2 n cap g cap2 w'') := fun w' h =>
    (text_any s2 _ w' hcs2 (bytes_set HL.out k x hx) hz2).mono fun _ _ ⟨he, e2⟩ => ⟨by rw [he, hd2], e2 ▸ h⟩
  have T3 : Hid (∀ w', Two w b off k y s1 s2 n cap g cap2 w' → Calls Try.prog 6 #[] w' fun e w'' => e = .returned (.bool true) ∧ Two w b off k y s1 s2 n cap g cap2 w'') := fun w' h =>
    (awake_any w').mono fun _ _ ⟨he, e2⟩ => ⟨he, e2 ▸ h⟩
  have i1 : (k : Int) < (n : Int) := by omega
  clear hown hgrow hst hR3 hB hB3 hck hcs hcs2 hz1 hz2 hd1 hd2 hs1 hs2 hy HR HL
  go_wp2_with fail
  clear hw3 hcellk hfz
  go_region_held3 (fun w' => (convert 23 9 (.slice (some ⟨b, off, none⟩) n cap)).run Try.prog w' = .ok (.string s1) w' ∧ (convert 23 9 (.slice (some ⟨g, 0, none⟩) n cap2)).run Try.prog w' = .ok (.string s2) w' ∧
    w'.cell? ⟨b, off + k, none⟩ = some (.int .u8 (y : Int)) ∧ Below w.heap.size w w') (first | exact K0.out | assumption) (first
    | (go_at_call_of 9 (Value.string s1); refine (T1.out _ K0.out).mono ?_; rintro e w4 ⟨rfl, hk1⟩)
    | (go_at_call_of 9 (Value.string s2); refine (T2.out _ hk1).mono ?_; rintro e w5 ⟨rfl, hk2⟩)
    | (go_at_call 6; refine (T3.out _ hk2).mono ?_; rintro e w6 ⟨rfl, hk3⟩))
  go_wp2
  go_ret
  exact ⟨rfl, hk3.2.2.2⟩
theorem one_walk (a : Option Addr) (n cap : Nat) (l : List Nat) (at_ x : Nat) (w : World) (hr : Row w a n l) (hl : bytes l) (ha : at_ < 18446744073709551616) (hx : x < 256) :
    Calls Try.prog 5 #[.slice a n cap, .int .u64 at_, .int .u8 x] w fun e w' => e = .returned (.bool true) ∧ Below w.heap.size w w' := by
  by_cases hn : n ≤ 2000
  · rcases Nat.eq_zero_or_pos n with h0 | h0
    · subst h0
      clear hr hl
      have t1 : decide ((2000 : Int) < ((0 : Nat) : Int)) = false := by decide
      go_enter Try.func5, Try.ntmps5
      go_wp2_with fail
      refine (awake_any _).mono ?_
      rintro e w1 ⟨rfl, rfl⟩
      go_wp2
      go_ret
      exact ⟨rfl, Below.refl _ _⟩
    · obtain ⟨b, off, rfl, _⟩ := hr.2 h0
      exact one_some b off n cap l at_ x w hr hl ha hx h0 hn
  · have t1 : decide ((2000 : Int) < (n : Int)) = true := decide_eq_true (by omega)
    clear hr hl
    go_enter Try.func5, Try.ntmps5
    go_wp2_with fail
    refine (awake_any _).mono ?_
    rintro e w1 ⟨rfl, rfl⟩
    go_wp2
    go_ret
    exact ⟨rfl, Below.refl _ _⟩
end Go.Proofs.Ytjigobalghckdaa

/-
  KeyPairs walked: for every int n, every slice of bytes and every int bits it returns true, where the tables lie in memory as their text lays them; what was in memory stays.
-/
import Derived.Test.YtmjcdondogpceaaDoorBytes
import Derived.Test.YtmjcdondogpceaaDoorApart
namespace Go.Proofs.YtmjcdondogpceaaDoor
open Go.ChangeShapes Go.WideShapes Go.ChangeAt Go.RowKit
/-- what each call of the law keeps: two pairs in the blocks g and g + 1, the argument can be made a string, and all of w stands. -/
def Kept (w : World) (g P A Q B : Nat) (a : Option Addr) (m cap : Nat) (s : ByteArray) (w' : World) : Prop :=
  w'.cell? ⟨g, 0, none⟩ = some (.int .u64 (P : Int)) ∧ w'.cell? ⟨g, 1, none⟩ = some (.int .u64 (A : Int)) ∧ w'.cell? ⟨g + 1, 0, none⟩ = some (.int .u64 (Q : Int)) ∧ w'.cell? ⟨g + 1, 1, none⟩ = some (.int .u64 (B : Int)) ∧ (convert 22 9 (.slice a m cap)).run Tryd.prog w' = .ok (.string s) w' ∧ g + 1 < w'.heap.size ∧ Below w.heap.size w w'
theorem kept_of {w w' : World} {g P A Q B : Nat} {a : Option Addr} {m cap : Nat} {l : List Nat} (hr : fn.Row w a m l) (h : Two w g P A Q B w') : Kept w g P A Q B a m cap (fn.str l) w' := by
  obtain ⟨h0, h1, h2, h3, h4, h5⟩ := h
  exact ⟨h0, h1, h2, h3, fn.string_of_row w' a m cap l (hr.below h5), h4, h5⟩
theorem Kept.two {w w' : World} {g P A Q B : Nat} {a : Option Addr} {m cap : Nat} {s : ByteArray} (h : Kept w g P A Q B a m cap s w') : Two w g P A Q B w' := by
  obtain ⟨h0, h1, h2, h3, _, h4, h5⟩ := h
  exact ⟨h0, h1, h2, h3, h4, h5⟩
theorem shard_expr (Q : Nat) : wrap64 ((Q : Int) % 256) = (Q : Int) % 256 := by unfold wrap64; omega
set_option maxHeartbeats 3200000 in
set_option maxRecDepth 100000 in
theorem pairs_some (n : Int) (a : Option Addr) (m cap : Nat) (l : List Nat) (k : Int) (hm : m ≤ 200) (hcap : m ≤ cap) (w : World) (hr : fn.Row w a m l) (hl : fn.bytes l) (hS : mx.Steps w) (hT : xx.Turns w) :
    Calls Tryd.prog 3 #[.int .i64 n, .slice a m cap, .int .i64 k] w fun e w' => e = .returned (.bool true) ∧ Below w.heap.size w w' := by
  have hi : ∀ W, mx.Steps W → Calls Tryd.prog 7 #[.int .i64 n] W fun e w' => e = .returned (pv (mix (word n)) (twist (word n))) ∧ Below W.heap.size W w' := fun W hW => int_any n W hW
  have hx := word_lt n
  have he := word_expr n
  have refint_any := refint_any n
  have number_any := number_any (word n) hx
  have hP := mix_lt (word n)
  have hQ := sum_lt l
  obtain ⟨s, hs⟩ : ∃ s, fn.str l = s := ⟨_, rfl⟩
  have hsl : s.size ≤ 4611686018427387904 := by rw [← hs, fn.str_size, hr.1]; omega
  have hsc : fn.Codes s l := hs ▸ fn.str_codes l hl
  have hby : ∀ W, fn.Row W a m l → xx.Turns W → Calls Tryd.prog 8 #[.slice a m cap] W fun e w' => e = .returned (pv (sum l) (gone l)) ∧ Below W.heap.size W w' := fun W h1 h2 => bytes_any a m cap l W h1 hl h2 (by omega) hcap
  have hrb : ∀ W, fn.Row W a m l → Calls Tryd.prog 11 #[.slice a m cap] W fun e w' => e = .returned (pv (sum l) (gone l)) ∧ Below W.heap.size W w' := fun W h1 => refbytes_any a m cap l W h1 hl (by omega) hcap
  have htx : ∀ W, xx.Turns W → Calls Tryd.prog 12 #[.string s] W fun e w' => e = .returned (pv (sum l) (gone l)) ∧ Below W.heap.size W w' := fun W h2 => text_any s l W hsc hl h2 hsl
  generalize mix (word n) = P at *
  generalize twist (word n) = A at *
  generalize word n = x at *
  generalize sum l = Q at *
  generalize gone l = B at *
  have hcu := fun W => cut_any P A k hP W
  have hrc := fun W => refcut_any P A k hP W
  have hsh := fun W => shard_any Q hQ W
  generalize low P k = L at *
  have KOF : Hid (∀ g W, Two w g P A Q B W → Kept w g P A Q B a m cap s W) := fun g W h => hs ▸ kept_of hr h
  have hst : ∀ W, Below w.heap.size w W → mx.Steps W := fun W hW => steps_below hS hW
  have htn : ∀ W, Below w.heap.size w W → xx.Turns W := fun W hW => turns_below hT hW
  have hrow : ∀ W, Below w.heap.size w W → fn.Row W a m l := fun W hW => hr.below hW
  have T7 := Lib.hid (hi w hS)
  have T8 : Hid (∀ W, Below w.heap.size w W → Calls Tryd.prog 8 #[.slice a m cap] W fun e w' => e = .returned (pv Q B) ∧ Below W.heap.size W w') := fun W hW => hby W (hrow W hW) (htn W hW)
  have T9 : Hid (∀ g W, Kept w g P A Q B a m cap s W → Calls Tryd.prog 9 #[.int .i64 n] W fun e w' => e = .returned (pv P A) ∧ Kept w g P A Q B a m cap s w') := fun g W hW => (refint_any W).mono fun _ _ ⟨he, hb⟩ => ⟨he, KOF.out g _ (hW.two.below hb)⟩
  have T10 : Hid (∀ g W, Kept w g P A Q B a m cap s W → Calls Tryd.prog 10 #[.int .u64 (x : Int)] W fun e w' => e = .returned (pv P A) ∧ Kept w g P A Q B a m cap s w') := fun g W hW => (number_any W (hst W hW.2.2.2.2.2.2)).mono fun _ _ ⟨he, hb⟩ => ⟨he, KOF.out g _ (hW.two.below hb)⟩
  have T11 : Hid (∀ g W, Kept w g P A Q B a m cap s W → Calls Tryd.prog 11 #[.slice a m cap] W fun e w' => e = .returned (pv Q B) ∧ Kept w g P A Q B a m cap s w') := fun g W hW => (hrb W (hrow W hW.2.2.2.2.2.2)).mono fun _ _ ⟨he, hb⟩ => ⟨he, KOF.out g _ (hW.two.below hb)⟩
  have T12 : Hid (∀ g W, Kept w g P A Q B a m cap s W → Calls Tryd.prog 12 #[.string s] W fun e w' => e = .returned (pv Q B) ∧ Kept w g P A Q B a m cap s w') := fun g W hW => (htx W (htn W hW.2.2.2.2.2.2)).mono fun _ _ ⟨he, hb⟩ => ⟨he, KOF.out g _ (hW.two.below hb)⟩
  have T13 : Hid (∀ g W, Kept w g P A Q B a m cap s W → Calls Tryd.prog 13 #[pv P A, .int .i64 k] W fun e w' => e = .returned (pv L A) ∧ Kept w g P A Q B a m cap s w') := fun g W hW => (hcu W).mono fun _ _ ⟨he, hb⟩ => ⟨he, KOF.out g _ (hW.two.below hb)⟩
  have T14 : Hid (∀ g W, Kept w g P A Q B a m cap s W → Calls Tryd.prog 14 #[pv P A, .int .i64 k] W fun e w' => e = .returned (pv L A) ∧ Kept w g P A Q B a m cap s w') := fun g W hW => (hrc W).mono fun _ _ ⟨he, hb⟩ => ⟨he, KOF.out g _ (hW.two.below hb)⟩
  have T15 : Hid (∀ g W, Kept w g P A Q B a m cap s W → Calls Tryd.prog 15 #[.int .u64 (Q : Int)] W fun e w' => e = .returned (.int .i64 ((Q : Int) % 256)) ∧ Kept w g P A Q B a m cap s w') := fun g W hW => (hsh W).mono fun _ _ ⟨he, hw⟩ => ⟨he, hw ▸ hW⟩
  have T6 : Hid (∀ g W, Kept w g P A Q B a m cap s W → Calls Tryd.prog 6 #[] W fun e w' => e = .returned (.bool true) ∧ Kept w g P A Q B a m cap s w') := fun g W hW => (awake_any W (hst W hW.2.2.2.2.2.2)).mono fun _ _ ⟨he, hb⟩ => ⟨he, KOF.out g _ (hW.two.below hb)⟩
  have hmod := shard_expr Q
  have hmod1 : IntKind.i64.wrap ((Q : Int) % 256) = (Q : Int) % 256 := by rw [IntKind.wrap_i64]; omega
  have hmod2 : IntKind.u64.wrap ((Q : Int) % 256) = (Q : Int) % 256 := by rw [IntKind.wrap_u64]; omega
  have hmod3 : (Q : Int).tmod 256 = (Q : Int) % 256 := Int.tmod_eq_emod_of_nonneg (by omega)
  clear hi refint_any number_any hby hrb htx hcu hrc hsh hst htn hrow hS hT hr hl hsc hs hsl
  go_enter Tryd.func3, Tryd.ntmps3
  go_wp2_with fail
  refine T7.out.mono ?_
  rintro e w1 ⟨rfl, b1⟩
  have B1 := Lib.hid b1
  clear b1 T7
  go_wp2_with fail
  refine (T8.out _ B1.out).mono ?_
  rintro e w2 ⟨rfl, b2⟩
  have B2 := Lib.hid (bnext B1.out b2 B1.out.size)
  clear b2 B1 T8
  have K0 : Hid (Kept w w2.heap.size P A Q B a m cap s ((w2.alloc (.cells #[.int .u64 (P : Int), .int .u64 (A : Int)] 26)).alloc (.cells #[.int .u64 (Q : Int), .int .u64 (B : Int)] 26)).drew) := KOF.out _ _ (two_new B2.out).drew
  clear B2 KOF
  go_wp2_with fail
  generalize hg : w2.heap.size = g at *
  clear hg
  go_region_held3 (fun w' => w'.cell? ⟨g, 0, none⟩ = some (.int .u64 (P : Int)) ∧ w'.cell? ⟨g, 1, none⟩ = some (.int .u64 (A : Int)) ∧ w'.cell? ⟨g + 1, 0, none⟩ = some (.int .u64 (Q : Int)) ∧ w'.cell? ⟨g + 1, 1, none⟩ = some (.int .u64 (B : Int)) ∧ (convert 22 9 (.slice a m cap)).run Tryd.prog w' = .ok (.string s) w' ∧ g + 1 < w'.heap.size ∧ Below w.heap.size w w') (first | exact K0.out | assumption) (first
    | (go_at_call 9; refine (T9.out _ _ K0.out).mono ?_; rintro e w3 ⟨rfl, hk3⟩)
    | (go_at_call 10; refine (T10.out _ _ hk3).mono ?_; rintro e w4 ⟨rfl, hk4⟩)
    | (go_at_call 11; refine (T11.out _ _ hk4).mono ?_; rintro e w5 ⟨rfl, hk5⟩)
    | (go_at_call 12; refine (T12.out _ _ hk5).mono ?_; rintro e w6 ⟨rfl, hk6⟩)
    | (go_at_call 13; refine (T13.out _ _ hk6).mono ?_; rintro e w7 ⟨rfl, hk7⟩)
    | (go_at_call 14; refine (T14.out _ _ hk7).mono ?_; rintro e w8 ⟨rfl, hk8⟩)
    | (go_at_call 15; refine (T15.out _ _ hk8).mono ?_; rintro e w9 ⟨rfl, hk9⟩)
    | (go_at_call 6; refine (T6.out _ _ hk9).mono ?_; rintro e w10 ⟨rfl, hk10⟩))
  go_wp2
  go_ret
  exact ⟨rfl, hk10.2.2.2.2.2.2⟩
theorem pairs_walk (n : Int) (a : Option Addr) (m cap : Nat) (l : List Nat) (k : Int) (hcap : m ≤ cap) (w : World) (hr : fn.Row w a m l) (hl : fn.bytes l) (hS : mx.Steps w) (hT : xx.Turns w) :
    Calls Tryd.prog 3 #[.int .i64 n, .slice a m cap, .int .i64 k] w fun e w' => e = .returned (.bool true) ∧ Below w.heap.size w w' := by
  by_cases hm : m ≤ 200
  · exact pairs_some n a m cap l k hm hcap w hr hl hS hT
  · have hmi : (200 : Int) < (m : Int) := by omega
    have H := Lib.hid hS
    clear hr hl hS hT
    go_enter Tryd.func3, Tryd.ntmps3
    go_wp2_with fail
    refine (awake_any _ H.out).mono ?_
    rintro e w1 ⟨rfl, b1⟩
    go_wp2
    go_ret
    exact ⟨rfl, b1⟩
end Go.Proofs.YtmjcdondogpceaaDoor

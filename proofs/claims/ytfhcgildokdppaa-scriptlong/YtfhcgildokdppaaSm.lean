/-
  Of no function: configs, the nearest one, scripts, which are right, their bytes, and the script of any bytes; what is parsed is right; the bytes of a right script are parsed to it. Conditions stand in each theorem.
-/
import Derived.Test.YtfhcgildokdppaaOp
namespace Go.Proofs.Ytfhcgildokdppaa
open tp
/-- the nearer one of two bounds, or a number between them. -/
def nr (x lo hi : Int) : Int := min (max x lo) hi
theorem nr_ref (x lo hi : Int) (h : lo ≤ hi) : max lo (min x hi) = nr x lo hi := by unfold nr; omega
theorem nr_in (x lo hi : Int) (h : lo ≤ hi) : lo ≤ nr x lo hi ∧ nr x lo hi ≤ hi := by unfold nr; omega
theorem nr_id (x lo hi : Int) (h : lo ≤ x) (h' : x ≤ hi) : nr x lo hi = x := by unfold nr; omega
/-- a config. -/
structure Cfg where
  mx : Int
  bu : Int
  co : Int
  ba : Int
  bi : Int
theorem Cfg.same (a b : Cfg) : (a.mx = b.mx ∧ a.bu = b.bu ∧ a.co = b.co ∧ a.ba = b.ba ∧ a.bi = b.bi) ↔ a = b := by
  obtain ⟨a0, a1, a2, a3, a4⟩ := a
  obtain ⟨b0, b1, b2, b3, b4⟩ := b
  simp only [Cfg.mk.injEq]
instance : DecidableEq Cfg := fun a b => decidable_of_iff _ (Cfg.same a b)
def Cfg.ok (c : Cfg) : Prop := I64 c.mx ∧ I64 c.bu ∧ I64 c.co ∧ I64 c.ba ∧ I64 c.bi
/-- each of its numbers as the nearer one of its bounds. -/
def near (c : Cfg) : Cfg := ⟨nr c.mx 0 4611686018427387904, nr c.bu 1 64, nr c.co 1 4096, nr c.ba 1 16, nr c.bi 0 64⟩
theorem near_near (c : Cfg) : near (near c) = near c := by
  obtain ⟨a, b, d, e, f⟩ := c
  have h1 := nr_in a 0 4611686018427387904 (by decide)
  have h2 := nr_in b 1 64 (by decide)
  have h3 := nr_in d 1 4096 (by decide)
  have h4 := nr_in e 1 16 (by decide)
  have h5 := nr_in f 0 64 (by decide)
  unfold near
  simp only
  rw [nr_id _ _ _ h1.1 h1.2, nr_id _ _ _ h2.1 h2.2, nr_id _ _ _ h3.1 h3.2, nr_id _ _ _ h4.1 h4.2, nr_id _ _ _ h5.1 h5.2]
theorem near_bounds {c : Cfg} (h : near c = c) : (0 ≤ c.mx ∧ c.mx ≤ 4611686018427387904) ∧ (1 ≤ c.bu ∧ c.bu ≤ 64) ∧ (1 ≤ c.co ∧ c.co ≤ 4096) ∧ (1 ≤ c.ba ∧ c.ba ≤ 16) ∧ (0 ≤ c.bi ∧ c.bi ≤ 64) := by
  rw [← h]
  exact ⟨nr_in _ _ _ (by decide), nr_in _ _ _ (by decide), nr_in _ _ _ (by decide), nr_in _ _ _ (by decide), nr_in _ _ _ (by decide)⟩
/-- a script. -/
structure Scr where
  c : Cfg
  ps : List (List Opn)
  ks : List Int
  ds : List Int
theorem Scr.same (a b : Scr) : (a.c = b.c ∧ a.ps = b.ps ∧ a.ks = b.ks ∧ a.ds = b.ds) ↔ a = b := by
  obtain ⟨a0, a1, a2, a3⟩ := a
  obtain ⟨b0, b1, b2, b3⟩ := b
  simp only [Scr.mk.injEq]
instance : DecidableEq Scr := fun a b => decidable_of_iff _ (Scr.same a b)
/-- each number is an int. -/
def Scr.ok (s : Scr) : Prop := s.c.ok ∧ (∀ l ∈ s.ps, ∀ o ∈ l, o.ok) ∧ (∀ x ∈ s.ks, I64 x) ∧ (∀ x ∈ s.ds, I64 x)
/-- all programs are right. -/
def fines (ps : List (List Opn)) : Prop := ∀ l ∈ ps, fine l
instance (ps : List (List Opn)) : Decidable (fines ps) := inferInstanceAs (Decidable (∀ l ∈ ps, fine l))
def isK (x : Int) : Prop := 0 ≤ x ∧ x ≤ 255
instance (x : Int) : Decidable (isK x) := inferInstanceAs (Decidable (_ ∧ _))
def picks (ks : List Int) : Prop := ∀ x ∈ ks, isK x
instance (ks : List Int) : Decidable (picks ks) := inferInstanceAs (Decidable (∀ x ∈ ks, isK x))
/-- a script is right. -/
def rightS (s : Scr) : Prop := near s.c = s.c ∧ (s.ps.length ≤ 6 ∧ fines s.ps) ∧ (s.ks.length ≤ 4096 ∧ picks s.ks) ∧ s.ds.length ≤ 255
instance (s : Scr) : Decidable (rightS s) := inferInstanceAs (Decidable (_ ∧ _))
/-- how many calls all programs have. -/
def calls (s : Scr) : Nat := (s.ps.map List.length).sum
/-- a script's bytes. -/
def hd (s : Scr) : List Int := [s.c.mx, s.c.bu - 1, s.c.ba - 1, s.c.bi, s.c.co, (s.ps.length : Int)]
def eps (ps : List (List Opn)) : List Nat := ps.flatMap fun l => ens (pus l)
def kb (ks : List Int) : List Nat := ks.map fun k => (k % 256).toNat
def byS (s : Scr) : List Nat := ens (hd s) ++ eps s.ps ++ s.ds.length :: ens s.ds ++ kb s.ks
theorem eps_app (a b : List (List Opn)) : eps (a ++ b) = eps a ++ eps b := by unfold eps; rw [List.flatMap_append]
theorem eps_take (ps : List (List Opn)) (j : Nat) (h : j < ps.length) : eps (ps.take j) ++ ens (pus ps[j]) = eps (ps.take (j + 1)) := by
  rw [List.take_succ_eq_append_getElem h, eps_app]
  simp [eps]
theorem kb_take (ks : List Int) (j : Nat) (h : j < ks.length) : kb (ks.take j) ++ [(ks[j] % 256).toNat] = kb (ks.take (j + 1)) := by
  unfold kb
  rw [List.take_succ_eq_append_getElem h, List.map_append]
  rfl
theorem pus_len {l : List Opn} (h : fine l) : (ens (pus l)).length ≤ 1081 := by
  rw [ens_pus h.1]
  have e : ∀ m : List Opn, (eos m).length ≤ 45 * m.length := fun m => by
    induction m with
    | nil => simp [eos]
    | cons o r ih =>
      have h1 := nums_len o
      have h2 := pls_len o.k
      have h3 := ens_len (one o)
      have h4 : (one o).length = (nums o).length + 1 := rfl
      show (eo o ++ eos r).length ≤ _
      rw [List.length_append, List.length_cons]
      unfold eo
      omega
  have := e l
  have := h.1
  simp only [List.length_cons]
  omega
theorem eps_len (ps : List (List Opn)) (h : fines ps) : (eps ps).length ≤ 1081 * ps.length := by
  induction ps with
  | nil => simp [eps]
  | cons l r ih =>
    have h1 := pus_len (h l (List.mem_cons_self ..))
    have h2 := ih fun m hm => h m (List.mem_cons_of_mem _ hm)
    show (ens (pus l) ++ eps r).length ≤ _
    rw [List.length_append, List.length_cons]
    omega
theorem byS_len {s : Scr} (h : rightS s) : (byS s).length ≤ 13000 := by
  obtain ⟨_, ⟨h1, h2⟩, ⟨h3, _⟩, h4⟩ := h
  have e1 := ens_len (hd s)
  have e2 := eps_len s.ps h2
  have e3 := ens_len s.ds
  have e4 : (kb s.ks).length = s.ks.length := by simp [kb]
  have e5 : (hd s).length = 6 := rfl
  unfold byS
  simp only [List.length_append, List.length_cons]
  omega
theorem byS_bs {s : Scr} (h : rightS s) : Bs (byS s) := by
  obtain ⟨_, ⟨h1, h2⟩, ⟨h3, h3'⟩, h4⟩ := h
  unfold byS
  refine bs_app (bs_app (bs_app (ens_bs _) fun b hb => ?_) fun b hb => ?_) fun b hb => ?_
  · obtain ⟨l, _, hb⟩ := List.mem_flatMap.1 hb
    exact ens_bs _ b hb
  · rcases List.mem_cons.1 hb with rfl | hb
    · omega
    · exact ens_bs _ b hb
  · obtain ⟨k, _, rfl⟩ := List.mem_map.1 hb
    omega
/-- the document's bytes are the same. -/
theorem byS_ref {s : Scr} (h : rightS s) : ens [s.c.mx] ++ [(s.c.bu - 1).toNat, (s.c.ba - 1).toNat, s.c.bi.toNat] ++ ens [s.c.co] ++ [s.ps.length] = ens (hd s) := by
  obtain ⟨_, b1, _, b3, b4⟩ := near_bounds h.1
  have h6 := h.2.1.1
  simp only [hd, ens, List.flatMap_cons, List.flatMap_nil, List.append_nil]
  rw [en_small (n := s.c.bu - 1) (by omega), en_small (n := s.c.ba - 1) (by omega), en_small (n := s.c.bi) (by omega), en_small (n := (s.ps.length : Int)) (by omega)]
  simp
/-- the place behind n programs, and n programs. -/
def ppa (bs : List Nat) (a : Nat) : Nat → Nat
  | 0 => a
  | n + 1 => pz bs (ppa bs a n)
def ppl (bs : List Nat) (a : Nat) : Nat → List (List Opn)
  | 0 => []
  | n + 1 => ppl bs a n ++ [pl bs (ppa bs a n)]
/-- n numbers. -/
def dl (bs : List Nat) (a : Nat) : Nat → List Int
  | 0 => []
  | n + 1 => dl bs a n ++ [iv bs (pa bs a n)]
/-- n bytes. -/
def kl (bs : List Nat) (a : Nat) : Nat → List Int
  | 0 => []
  | n + 1 => kl bs a n ++ [(bt bs (ad bs a n) : Int)]
theorem ppa_le {bs : List Nat} {a : Nat} (h : a ≤ bs.length) (n : Nat) : ppa bs a n ≤ bs.length := by
  induction n with
  | zero => exact h
  | succ n ih => exact pz_le ih
theorem ppl_len (bs : List Nat) (a n : Nat) : (ppl bs a n).length = n := by
  induction n with
  | zero => rfl
  | succ n ih => simp [ppl, ih]
theorem dl_len (bs : List Nat) (a n : Nat) : (dl bs a n).length = n := by
  induction n with
  | zero => rfl
  | succ n ih => simp [dl, ih]
theorem kl_len (bs : List Nat) (a n : Nat) : (kl bs a n).length = n := by
  induction n with
  | zero => rfl
  | succ n ih => simp [kl, ih]
/-- where what is parsed begins: the places of Buffer, Batch, Bits, Counters, of how many programs, the programs, how many draws, the draws, the picks. -/
def q1 (bs : List Nat) : Nat := ia bs 0
def q2 (bs : List Nat) : Nat := nx bs (q1 bs)
def q3 (bs : List Nat) : Nat := nx bs (q2 bs)
def q4 (bs : List Nat) : Nat := nx bs (q3 bs)
def q5 (bs : List Nat) : Nat := ia bs (q4 bs)
def q6 (bs : List Nat) : Nat := nx bs (q5 bs)
def np (bs : List Nat) : Nat := bt bs (q5 bs) % 7
def q7 (bs : List Nat) : Nat := ppa bs (q6 bs) (np bs)
def nd (bs : List Nat) : Nat := bt bs (q7 bs)
def q8 (bs : List Nat) : Nat := nx bs (q7 bs)
def q9 (bs : List Nat) : Nat := pa bs (q8 bs) (nd bs)
def nk (bs : List Nat) : Nat := min (bs.length - q9 bs) 4096
def cf (bs : List Nat) : Cfg := ⟨iv bs 0, 1 + ((bt bs (q1 bs) % 64 : Nat) : Int), iv bs (q4 bs), 1 + ((bt bs (q2 bs) % 16 : Nat) : Int), ((bt bs (q3 bs) % 65 : Nat) : Int)⟩
/-- the script of bytes. -/
def parse (bs : List Nat) : Scr := ⟨near (cf bs), ppl bs (q6 bs) (np bs), kl bs (q9 bs) (nk bs), dl bs (q8 bs) (nd bs)⟩
theorem q7_le (bs : List Nat) : q7 bs ≤ bs.length := ppa_le (nx_le (ia_le (nx_le (nx_le (nx_le (ia_le (Nat.zero_le _))))))) _
theorem q9_le (bs : List Nat) : q9 bs ≤ bs.length := pa_le (nx_le (q7_le bs)) _
theorem parse_right {bs : List Nat} (h : Bs bs) : rightS (parse bs) := by
  refine ⟨near_near _, ⟨?_, ?_⟩, ⟨?_, ?_⟩, ?_⟩
  · show (ppl bs (q6 bs) (np bs)).length ≤ 6
    rw [ppl_len]
    unfold np
    omega
  · show fines (ppl bs (q6 bs) (np bs))
    generalize np bs = n
    induction n with
    | zero => intro l hl; simp [ppl] at hl
    | succ n ih =>
      intro l hl
      rcases List.mem_append.1 hl with hl | hl
      · exact ih l hl
      · obtain rfl := List.mem_singleton.1 hl
        exact pl_fine _ _
  · show (kl bs (q9 bs) (nk bs)).length ≤ 4096
    rw [kl_len]
    unfold nk
    omega
  · show picks (kl bs (q9 bs) (nk bs))
    generalize nk bs = n
    induction n with
    | zero => intro l hl; simp [kl] at hl
    | succ n ih =>
      intro l hl
      rcases List.mem_append.1 hl with hl | hl
      · exact ih l hl
      · obtain rfl := List.mem_singleton.1 hl
        have := bt_lt h (ad bs (q9 bs) n)
        unfold isK
        omega
  · show (dl bs (q8 bs) (nd bs)).length ≤ 255
    rw [dl_len]
    have := bt_lt h (q7 bs)
    unfold nd
    omega
/-- programs that were put are read, in order. -/
theorem pl_at (pre post : List Nat) (l : List Opn) (h : fine l) (ho : ∀ o ∈ l, o.ok) : pl (pre ++ ens (pus l) ++ post) pre.length = l ∧ pz (pre ++ ens (pus l) ++ post) pre.length = pre.length + (ens (pus l)).length := by
  obtain ⟨hl, hr⟩ := h
  rw [ens_pus hl]
  have hb : bt (pre ++ l.length :: eos l ++ post) pre.length = l.length := by
    have := bt_mid pre (l.length :: eos l) post 0 (by simp)
    simpa using this
  have hlt : pre.length < (pre ++ l.length :: eos l ++ post).length := by simp
  have hn : nx (pre ++ l.length :: eos l ++ post) pre.length = pre.length + 1 := nx_in hlt
  have hp : pn (pre ++ l.length :: eos l ++ post) pre.length = l.length := by unfold pn; rw [hb]; omega
  have := ql_put (pre ++ [l.length]) post l hr ho l.length (Nat.le_refl _)
  rw [List.take_length, show pre ++ [l.length] ++ eos l ++ post = pre ++ l.length :: eos l ++ post by simp] at this
  unfold pl pz
  rw [hp, hn]
  have e : (pre ++ [l.length]).length = pre.length + 1 := by simp
  rw [e] at this
  exact ⟨this.1, by rw [this.2]; simp; omega⟩
theorem ppl_put (pre post : List Nat) (ps : List (List Opn)) (h : fines ps) (ho : ∀ l ∈ ps, ∀ o ∈ l, o.ok) (n : Nat) (hn : n ≤ ps.length) : ppl (pre ++ eps ps ++ post) pre.length n = ps.take n ∧ ppa (pre ++ eps ps ++ post) pre.length n = pre.length + (eps (ps.take n)).length := by
  induction n with
  | zero => exact ⟨rfl, by simp [ppa, eps]⟩
  | succ n ih =>
    obtain ⟨h1, h2⟩ := ih (by omega)
    have hm := List.getElem_mem hn
    have e : eps ps = eps (ps.take n) ++ ens (pus ps[n]) ++ eps (ps.drop (n + 1)) := by
      rw [eps_take ps n hn, ← eps_app, List.take_append_drop]
    have := pl_at (pre ++ eps (ps.take n)) (eps (ps.drop (n + 1)) ++ post) ps[n] (h _ hm) (ho _ hm)
    have e2 : pre ++ eps ps ++ post = pre ++ eps (ps.take n) ++ ens (pus ps[n]) ++ (eps (ps.drop (n + 1)) ++ post) := by rw [e]; simp
    rw [List.length_append, ← e2] at this
    have et : ps.take (n + 1) = ps.take n ++ [ps[n]] := List.take_succ_eq_append_getElem hn
    constructor
    · show ppl _ _ n ++ [pl _ (ppa _ _ n)] = _
      rw [h1, h2, this.1, et]
    · show pz _ (ppa _ _ n) = _
      rw [h2, this.2, et, eps_app]
      simp [eps]
      omega
theorem dl_put (pre post : List Nat) (xs : List Int) (h : ∀ x ∈ xs, I64 x) (n : Nat) (hn : n ≤ xs.length) : dl (pre ++ ens xs ++ post) pre.length n = xs.take n := by
  induction n with
  | zero => rfl
  | succ n ih =>
    show dl _ _ n ++ [iv _ (pa _ _ n)] = _
    rw [ih (by omega), iv_at pre post xs h n hn, List.take_succ_eq_append_getElem hn]
theorem kl_put (pre : List Nat) (ks : List Int) (h : picks ks) (n : Nat) (hn : n ≤ ks.length) : kl (pre ++ kb ks) pre.length n = ks.take n := by
  induction n with
  | zero => rfl
  | succ n ih =>
    have hl : (kb ks).length = ks.length := by simp [kb]
    show kl _ _ n ++ [(bt _ (ad _ _ n) : Int)] = _
    rw [ih (by omega), ad_in n (by simp [hl]; omega), List.take_succ_eq_append_getElem hn]
    have := bt_mid pre (kb ks) [] n (by omega)
    rw [List.append_nil] at this
    rw [this]
    have hk := h _ (List.getElem_mem hn)
    unfold isK at hk
    have e : ((((kb ks)[n]'(by omega) : Nat) : Int)) = ks[n] := by
      simp only [kb, List.getElem_map]
      omega
    rw [e]
/-- the bytes of a right script are parsed to it. -/
theorem parse_by {s : Scr} (h : rightS s) (ho : s.ok) : parse (byS s) = s := by
  obtain ⟨⟨mx, bu, co, ba, bi⟩, ps, ks, ds⟩ := s
  obtain ⟨hc, ⟨h1, h2⟩, ⟨h3, h3'⟩, h4⟩ := h
  obtain ⟨oc, op, ok, od⟩ := ho
  obtain ⟨b0, b1, b2, b3, b4⟩ := near_bounds hc
  simp only at hc h1 h2 h3 h3' h4 b0 b1 b2 b3 b4 oc op ok od
  obtain ⟨R, hR⟩ : ∃ R, eps ps ++ ds.length :: ens ds ++ kb ks = R := ⟨_, rfl⟩
  have hx : ∀ x ∈ ([mx, bu - 1, ba - 1, bi, co, (ps.length : Int)] : List Int), I64 x := by
    intro x hx
    unfold I64
    simp at hx
    rcases hx with rfl | rfl | rfl | rfl | rfl | rfl <;> omega
  have e0 : byS ⟨⟨mx, bu, co, ba, bi⟩, ps, ks, ds⟩ = en mx ++ (bu - 1).toNat :: (ba - 1).toNat :: bi.toNat :: en co ++ ps.length :: R := by
    unfold byS hd
    simp only
    rw [show ens [mx, bu - 1, ba - 1, bi, co, (ps.length : Int)] = en mx ++ (en (bu - 1) ++ (en (ba - 1) ++ (en bi ++ (en co ++ (en (ps.length : Int) ++ []))))) from rfl, en_small (n := bu - 1) (by omega), en_small (n := ba - 1) (by omega), en_small (n := bi) (by omega), en_small (n := (ps.length : Int)) (by omega), ← hR]
    simp
  obtain ⟨B, hB⟩ : ∃ B, byS ⟨⟨mx, bu, co, ba, bi⟩, ps, ks, ds⟩ = B := ⟨_, rfl⟩
  rw [hB] at e0 ⊢
  have i0 : iv B 0 = mx ∧ ia B 0 = (en mx).length := by
    have := iv_put [] ((bu - 1).toNat :: (ba - 1).toNat :: bi.toNat :: en co ++ ps.length :: R) mx (by omega) (by omega)
    rw [e0]
    simpa using this
  have byte : ∀ (pre post : List Nat) (b : Nat), B = pre ++ b :: post → bt B pre.length = b ∧ nx B pre.length = pre.length + 1 := fun pre post b e => by
    have h0 : B = pre ++ [b] ++ post := by rw [e]; simp
    have := bt_mid pre [b] post 0 (by simp)
    rw [Nat.add_zero, ← h0] at this
    exact ⟨by rw [this]; rfl, nx_in (by rw [e]; simp)⟩
  have g1 := byte (en mx) ((ba - 1).toNat :: bi.toNat :: en co ++ ps.length :: R) (bu - 1).toNat (by rw [e0]; simp)
  have g2 := byte (en mx ++ [(bu - 1).toNat]) (bi.toNat :: en co ++ ps.length :: R) (ba - 1).toNat (by rw [e0]; simp)
  have g3 := byte (en mx ++ [(bu - 1).toNat, (ba - 1).toNat]) (en co ++ ps.length :: R) bi.toNat (by rw [e0]; simp)
  have g4 := iv_put (en mx ++ [(bu - 1).toNat, (ba - 1).toNat, bi.toNat]) (ps.length :: R) co (by omega) (by omega)
  rw [show en mx ++ [(bu - 1).toNat, (ba - 1).toNat, bi.toNat] ++ en co ++ ps.length :: R = B by rw [e0]; simp] at g4
  have g5 := byte (en mx ++ [(bu - 1).toNat, (ba - 1).toNat, bi.toNat] ++ en co) R ps.length (by rw [e0]; simp)
  simp only [List.length_append, List.length_cons, List.length_nil, Nat.zero_add, Nat.reduceAdd] at g1 g2 g3 g4 g5
  have w1 : q1 B = (en mx).length := i0.2
  have w2 : q2 B = (en mx).length + 1 := by unfold q2; rw [w1]; exact g1.2
  have w3 : q3 B = (en mx).length + 2 := by unfold q3; rw [w2]; exact g2.2
  have w4 : q4 B = (en mx).length + 3 := by unfold q4; rw [w3]; exact g3.2
  have w5 : q5 B = (en mx).length + 3 + (en co).length := by unfold q5; rw [w4]; exact g4.2
  have w6 : q6 B = (en mx).length + 3 + (en co).length + 1 := by unfold q6; rw [w5]; exact g5.2
  have n1 : np B = ps.length := by unfold np; rw [w5, g5.1]; omega
  obtain ⟨H, hH⟩ : ∃ H, en mx ++ [(bu - 1).toNat, (ba - 1).toNat, bi.toNat] ++ en co ++ [ps.length] = H := ⟨_, rfl⟩
  have lH : H.length = (en mx).length + 3 + (en co).length + 1 := by rw [← hH]; simp; omega
  have e1 : B = H ++ eps ps ++ (ds.length :: ens ds ++ kb ks) := by rw [e0, ← hH, ← hR]; simp
  have p1 := ppl_put H (ds.length :: ens ds ++ kb ks) ps h2 op ps.length (Nat.le_refl _)
  rw [← e1, List.take_length, lH, ← w6] at p1
  have w7 : q7 B = H.length + (eps ps).length := by unfold q7; rw [n1, p1.2, lH, w6]
  have g7 := byte (H ++ eps ps) (ens ds ++ kb ks) ds.length (by rw [e1]; simp)
  rw [List.length_append, ← w7] at g7
  have n2 : nd B = ds.length := g7.1
  have w8 : q8 B = (H ++ eps ps ++ [ds.length]).length := by unfold q8; rw [g7.2, w7]; simp; try omega
  have e2 : B = H ++ eps ps ++ [ds.length] ++ ens ds ++ kb ks := by rw [e1]; simp
  have d1 := dl_put (H ++ eps ps ++ [ds.length]) (kb ks) ds od ds.length (Nat.le_refl _)
  have d2 := pa_put (H ++ eps ps ++ [ds.length]) (kb ks) ds od ds.length (Nat.le_refl _)
  rw [← e2, List.take_length, ← w8] at d1
  rw [← e2, List.take_length, ← w8] at d2
  have w9 : q9 B = (H ++ eps ps ++ [ds.length] ++ ens ds).length := by unfold q9; rw [n2, d2, w8]; simp; try omega
  have n3 : nk B = ks.length := by
    have : B.length = q9 B + ks.length := by rw [w9, e2]; simp [kb]; try omega
    unfold nk
    omega
  have k1 := kl_put (H ++ eps ps ++ [ds.length] ++ ens ds) ks h3' ks.length (Nat.le_refl _)
  rw [← e2, List.take_length, ← w9] at k1
  have c1 : cf B = ⟨mx, bu, co, ba, bi⟩ := by
    unfold cf
    rw [i0.1, w1, w2, w3, w4, g1.1, g4.1]
    rw [g2.1, g3.1]
    simp only [Cfg.mk.injEq, true_and]
    omega
  unfold parse
  rw [c1, hc, n1, n2, n3, p1.1, k1, d1]
theorem parse_byte {bs : List Nat} (h : Bs bs) : nd bs % 256 = nd bs := by
  have := bt_lt h (q7 bs)
  unfold nd
  omega
end Go.Proofs.Ytfhcgildokdppaa

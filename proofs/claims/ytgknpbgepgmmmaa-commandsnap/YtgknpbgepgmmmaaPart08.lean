/- What is read whole is what is written; what is written is read whole. Plain mathematics. EqInts and EqSnap of the document's. ReadSnap of bytes that are a snapshot's, and of others; what a drawn region may read. The walk of CommandSnap. What snapshots, commands and bytes that came in read as. -/
import Derived.Test.YtgknpbgepgmmmaaPart07
import Derived.BigQuiet
import Derived.Lib.Strings
import Derived.Laws.BitsAllLaws
import Derived.WalkKit
import Derived.ProofKit
import Derived.OpenShut
import Derived.ShutString
import Derived.ChangeOld
import Derived.Below
import Derived.Lib.SmallJoins
namespace Go.Proofs.Ytgknpbgepgmmmaa.Cm
open Go.RowKit Bn Kp

theorem acc_pos (l : List UInt8) (h : l ≠ []) (h1 : at8 l (l.length - 1) ≠ 0) (h2 : at8 l (l.length - 1) < 128) : 0 < acc l := by
  induction l with
  | nil => exact absurd rfl h
  | cons b r ih =>
    have ea : acc (b :: r) = b.toNat % 128 + 128 * acc r := rfl
    cases r with
    | nil =>
      have e : at8 [b] ([b].length - 1) = (b.toNat : Int) := at8_cons_zero b []
      rw [e] at h1 h2
      omega
    | cons c r =>
      have e : (b :: c :: r).length - 1 = ((c :: r).length - 1) + 1 := by simp
      rw [e, at8_cons_succ] at h1 h2
      have := ih (by simp) h1 h2
      omega
/-- The bytes of the number that bytes make are these bytes. -/
theorem encF_acc_back (l : List UInt8) : ∀ (f : Nat), l ≠ [] → l.length ≤ f + 1 → (∀ j, j + 1 < l.length → 128 ≤ at8 l j) → at8 l (l.length - 1) < 128 → (1 < l.length → at8 l (l.length - 1) ≠ 0) → encF f (acc l) = l := by
  induction l with
  | nil => intro f h; exact absurd rfl h
  | cons b r ih =>
    intro f _ h h1 h2 h3
    have ea : acc (b :: r) = b.toNat % 128 + 128 * acc r := rfl
    have hlt := UInt8.toNat_lt b
    cases r with
    | nil =>
      have e : at8 [b] ([b].length - 1) = (b.toNat : Int) := at8_cons_zero b []
      rw [e] at h2
      have e0 : acc ([] : List UInt8) = 0 := rfl
      have e2 : acc [b] = b.toNat := by omega
      rw [e2, encF_last f b.toNat (by omega)]
      simp
    | cons c r =>
      have hb := h1 0 (by simp)
      rw [at8_cons_zero] at hb
      have e : (b :: c :: r).length - 1 = ((c :: r).length - 1) + 1 := by simp
      have h3' := h3 (by simp)
      rw [e, at8_cons_succ] at h2 h3'
      have hp := acc_pos (c :: r) (by simp) h3' h2
      cases f with
      | zero => simp at h
      | succ f =>
        have ih' := ih f (by simp) (by simp at h ⊢; omega) (fun j hj => by
          have := h1 (j + 1) (by simp at hj ⊢; omega)
          rwa [at8_cons_succ] at this) h2 (fun _ => h3')
        have e1 : acc (b :: c :: r) % 128 + 128 = b.toNat := by omega
        have e2 : acc (b :: c :: r) / 128 = acc (c :: r) := by omega
        rw [encF_more f _ (by omega), e1, e2, ih']
        simp

theorem zig_zag (u : Nat) : zig (zag u) = u := by
  unfold zig zag
  split <;> split <;> omega
theorem len7_more (bs : List UInt8) : ∀ (f k : Nat), len7 f bs = k + 1 → (∀ j, j < k → 128 ≤ at8 bs j) ∧ at8 bs k < 128 := by
  induction bs with
  | nil => intro f k h; cases f <;> simp [len7] at h
  | cons b r ih =>
    intro f k h
    cases f with
    | zero => simp [len7] at h
    | succ f =>
      have el : len7 (f + 1) (b :: r) = if 128 ≤ b.toNat then (if len7 f r = 0 then 0 else len7 f r + 1) else 1 := rfl
      rw [el] at h
      by_cases hb : 128 ≤ b.toNat
      · rw [if_pos hb] at h
        cases hr : len7 f r with
        | zero => rw [hr, if_pos rfl] at h; omega
        | succ m =>
          rw [hr, if_neg (by omega)] at h
          have hk : k = m + 1 := by omega
          subst hk
          obtain ⟨h1, h2⟩ := ih f m hr
          refine ⟨fun j hj => ?_, by rw [at8_cons_succ]; exact h2⟩
          cases j with
          | zero => rw [at8_cons_zero]; omega
          | succ j => rw [at8_cons_succ]; exact h1 j (by omega)
      · rw [if_neg hb] at h
        have hk : k = 0 := by omega
        subst hk
        exact ⟨fun j hj => by omega, by rw [at8_cons_zero]; omega⟩
theorem at8_take (bs : List UInt8) (k j : Nat) (h : j < k) : at8 (bs.take k) j = at8 bs j := by
  unfold at8
  simp [List.getD, h]
/-- What is read as a number is what the number is written as. -/
theorem num_back (bs : List UInt8) (u k : Nat) (h : num bs = some (u, k)) : bs = enc (zag u) ++ bs.drop k := by
  have hb : ¬ bad bs := fun hb => by rw [num_bad hb] at h; cases h
  rw [num_ok hb] at h
  simp only [Option.some.injEq, Prod.mk.injEq] at h
  obtain ⟨rfl, rfl⟩ := h
  obtain ⟨h10, hle⟩ := len7_le 10 bs
  have h0 : len7 10 bs ≠ 0 := fun h => hb (Or.inl h)
  obtain ⟨k, hk⟩ : ∃ k, len7 10 bs = k + 1 := ⟨len7 10 bs - 1, by omega⟩
  obtain ⟨g1, g2⟩ := len7_more bs 10 k hk
  have hz : ¬ (1 < len7 10 bs ∧ at8 bs (len7 10 bs - 1) = 0) := fun h => hb (Or.inr (Or.inl h))
  rw [hk] at hz h10 hle ⊢
  have hlen : (bs.take (k + 1)).length = k + 1 := by simp; omega
  have e : encF 9 (acc (bs.take (k + 1))) = bs.take (k + 1) := by
    refine encF_acc_back _ 9 (fun e => by rw [e] at hlen; simp at hlen) (by omega) (fun j hj => ?_) ?_ (fun hj => ?_)
    · rw [hlen] at hj
      rw [at8_take _ _ _ (by omega)]
      exact g1 j (by omega)
    · rw [hlen, at8_take _ _ _ (by omega)]
      exact g2
    · rw [hlen] at hj ⊢
      rw [at8_take _ _ _ (by omega)]
      exact fun h => hz ⟨by omega, h⟩
  rw [enc, zig_zag, e, List.take_append_drop]
theorem rNum_back (bs r : List UInt8) (n : Int) (h : rNum (some bs) = (n, some r)) : bs = enc n ++ r := by
  cases hn : num bs with
  | none => simp [rNum, hn] at h
  | some uk =>
    obtain ⟨u, k⟩ := uk
    simp only [rNum, hn, Prod.mk.injEq, Option.some.injEq] at h
    obtain ⟨rfl, rfl⟩ := h
    exact num_back bs u k hn
theorem rNum_none {st : R} {n : Int} {r : List UInt8} (h : rNum st = (n, some r)) : ∃ bs, st = some bs ∧ bs = enc n ++ r := by
  cases st with
  | none => simp [rNum] at h
  | some bs => exact ⟨bs, rfl, rNum_back bs r n h⟩
theorem rText_back {st : R} {t r : List UInt8} (h : rText st = (t, some r)) : ∃ bs, st = some bs ∧ bs = encT t ++ r := by
  unfold rText at h
  cases hn : (rNum st).2 with
  | none => rw [hn] at h; simp at h
  | some bs =>
    rw [hn] at h
    obtain ⟨b0, rfl, hb⟩ := rNum_none (show rNum st = ((rNum st).1, some bs) by rw [← hn])
    refine ⟨b0, rfl, ?_⟩
    simp only [rCut] at h
    split at h
    · rename_i hc
      simp only [Prod.mk.injEq, Option.some.injEq] at h
      obtain ⟨rfl, rfl⟩ := h
      have hl : (bs.take (rNum (some b0)).1.toNat).length = (rNum (some b0)).1.toNat := by rw [List.length_take]; omega
      rw [encT, hl, List.append_assoc, List.take_append_drop, Int.toNat_of_nonneg hc.1]
      exact hb
    · simp at h
theorem rdL_back {α : Type} (one : R → α × R) (f : α → List UInt8) (ho : ∀ {st : R} {x : α} {r : List UInt8}, one st = (x, some r) → ∃ bs, st = some bs ∧ bs = f x ++ r) : ∀ (n : Nat) (st : R) (xs : List α) (r : List UInt8), rdL one false n st = (xs, some r) → (∃ bs, st = some bs ∧ bs = xs.flatMap f ++ r) ∧ xs.length = n
  | 0, st, xs, r, h => by
    have h' : (([] : List α), st) = (xs, some r) := h
    simp only [Prod.mk.injEq] at h'
    obtain ⟨rfl, rfl⟩ := h'
    exact ⟨⟨r, rfl, rfl⟩, rfl⟩
  | n + 1, none, xs, r, h => by
    have h' : (([] : List α), (none : R)) = (xs, some r) := h
    simp at h'
  | n + 1, some l, xs, r, h => by
    have h' : ((one (some l)).1 :: (rdL one false n (one (some l)).2).1, (rdL one false n (one (some l)).2).2) = (xs, some r) := h
    simp only [Prod.mk.injEq] at h'
    obtain ⟨rfl, h2⟩ := h'
    obtain ⟨⟨b1, e1, e2⟩, e3⟩ := rdL_back one f ho n (one (some l)).2 (rdL one false n (one (some l)).2).1 r (by rw [← h2])
    obtain ⟨b2, e4, e5⟩ := ho (show one (some l) = ((one (some l)).1, some b1) by rw [← e1])
    refine ⟨⟨l, rfl, ?_⟩, by simp [e3]⟩
    simp only [Option.some.injEq] at e4
    refine e4.trans (e5.trans ?_)
    rw [List.flatMap_cons, List.append_assoc, ← e2]
theorem rdL_true {α : Type} (one : R → α × R) (n : Nat) (st : R) : rdL one true n st = ([], st) := rdL_off one true n st (by cases st <;> rfl)
theorem cntOk_iff (n most : Int) : cntOk n most = true ↔ 0 ≤ n ∧ n ≤ most := by simp [cntOk]
theorem rdLs_back {α : Type} (one : R → α × R) (f : α → List UInt8) (ho : ∀ {st : R} {x : α} {r : List UInt8}, one st = (x, some r) → ∃ bs, st = some bs ∧ bs = f x ++ r) (most : Int) (st : R) (xs : List α) (r : List UInt8) (h : rdLs one most st false = ((xs, some r), false)) :
    ∃ bs, st = some bs ∧ bs = enc xs.length ++ (xs.flatMap f ++ r) := by
  simp only [rdLs, Bool.false_or, Prod.mk.injEq] at h
  obtain ⟨h1, h2⟩ := h
  rw [h2] at h1
  obtain ⟨⟨b1, e1, e2⟩, e3⟩ := rdL_back one f ho _ _ _ _ h1
  obtain ⟨b0, rfl, e4⟩ := rNum_none (show rNum st = ((rNum st).1, some b1) by rw [← e1])
  have h3 := (cntOk_iff _ _).1 (by simpa using h2)
  refine ⟨b0, rfl, ?_⟩
  rw [e3, Int.toNat_of_nonneg h3.1, ← e2]
  exact e4
theorem rdLs_wrong {α : Type} {one : R → α × R} {most : Int} {st st' : R} {xs : List α} {wr : Bool} (h : rdLs one most st wr = ((xs, st'), false)) : wr = false := by
  simp only [rdLs, Prod.mk.injEq] at h
  cases wr
  · rfl
  · simp at h

theorem rdL_enc {α : Type} (one : R → α × R) (f : α → List UInt8) (xs : List α) (ho : ∀ x ∈ xs, ∀ r, one (some (f x ++ r)) = (x, some r)) (r : List UInt8) : rdL one false xs.length (some (xs.flatMap f ++ r)) = (xs, some r) := by
  induction xs with
  | nil => rfl
  | cons x xs ih =>
    have e : (x :: xs).flatMap f ++ r = f x ++ (xs.flatMap f ++ r) := by simp
    have h1 := ho x (by simp) (xs.flatMap f ++ r)
    have h2 := ih (fun y hy => ho y (by simp [hy]))
    rw [e]
    show ((one (some (f x ++ (xs.flatMap f ++ r)))).1 :: (rdL one false xs.length (one (some (f x ++ (xs.flatMap f ++ r)))).2).1, (rdL one false xs.length (one (some (f x ++ (xs.flatMap f ++ r)))).2).2) = _
    rw [h1, h2]
theorem rdLs_enc {α : Type} (one : R → α × R) (f : α → List UInt8) (xs : List α) (ho : ∀ x ∈ xs, ∀ r, one (some (f x ++ r)) = (x, some r)) (most : Int) (hm : (xs.length : Int) ≤ most) (hi : (xs.length : Int) ≤ 9223372036854775807) (r : List UInt8) :
    rdLs one most (some (enc xs.length ++ (xs.flatMap f ++ r))) false = ((xs, some r), false) := by
  have h1 := rNum_i (xs.length : Int) (xs.flatMap f ++ r) ⟨by omega, hi⟩
  have h2 : cntOk (xs.length : Int) most = true := (cntOk_iff _ _).2 ⟨by omega, hm⟩
  simp only [rdLs, h1, h2, Bool.not_true, Bool.or_false, Int.toNat_natCast, rdL_enc one f xs ho]

/-- A snapshot's bytes. -/
def encS' (s : Snp) : List UInt8 := enc s.idx ++ (enc s.term ++ (enc s.conf.length ++ (s.conf.flatMap enc ++ encT s.data)))
theorem rSnp_enc (s : Snp) (h : s.ok) : rSnp (some (encS' s)) = ((s, some []), false) := by
  obtain ⟨h1, h2, h3, h4, h5⟩ := h
  have e := rdLs_enc rNum enc s.conf (fun x hx r => rNum_i x r (h3 x hx)) 9223372036854775807 (by omega) (by omega) (encT s.data)
  have e2 := rText_t s.data [] h5
  rw [List.append_nil] at e2
  simp only [rSnp, encS', rNum_i _ _ h1, rNum_i _ _ h2, e, e2]
theorem okB_iff (st : R) (wr : Bool) : okB st wr = true ↔ st = some [] ∧ wr = false := by
  cases st with
  | none => simp [okB]
  | some l => cases wr <;> cases l <;> simp [okB]
theorem rSnp_back (bs : List UInt8) (h : okB (rSnp (some bs)).1.2 (rSnp (some bs)).2 = true) : encS' (rSnp (some bs)).1.1 = bs := by
  obtain ⟨h1, h2⟩ := (okB_iff _ _).1 h
  obtain ⟨n1, st1, e1⟩ : ∃ n s, rNum (some bs) = (n, s) := ⟨_, _, rfl⟩
  obtain ⟨n2, st2, e2⟩ : ∃ n s, rNum st1 = (n, s) := ⟨_, _, rfl⟩
  obtain ⟨ns, st3, wr, e3⟩ : ∃ ns s x, rdLs rNum 9223372036854775807 st2 false = ((ns, s), x) := ⟨_, _, _, rfl⟩
  obtain ⟨t, st4, e4⟩ : ∃ t s, rText st3 = (t, s) := ⟨_, _, rfl⟩
  have HE : rSnp (some bs) = ((⟨n1, n2, ns, t⟩, st4), wr) := by simp only [rSnp, e1, e2, e3, e4]
  rw [HE] at h1 h2 ⊢
  dsimp only at h1 h2 ⊢
  subst h1 h2
  obtain ⟨b3, rfl, f3⟩ := rText_back e4
  obtain ⟨b2, rfl, f2⟩ := rdLs_back rNum enc (fun h => rNum_none h) _ _ _ _ e3
  obtain ⟨b1, rfl, f1⟩ := rNum_none e2
  have f0 := rNum_back _ _ _ e1
  rw [encS', f0, f1, f2, f3]
  simp

end Go.Proofs.Ytgknpbgepgmmmaa.Cm
namespace Go.Proofs.Ytgknpbgepgmmmaa.Cm
open Go.RowKit Bn Kp

theorem cI_len (ns : List Int) : (cI ns).length = ns.length := by simp [cI]
theorem below_drewN (w : World) (n : Nat) : Below w.heap.size w (w.drewN n) := ⟨rfl, rfl, rfl, Nat.le_refl _, fun _ _ => rfl⟩

set_option maxHeartbeats 1000000 in
theorem eqInts_any (va vb : Value) (xs ys : List Int) (w : World) (ha : IsR w va (cI xs)) (hb : IsR w vb (cI ys)) :
    Calls Try.prog 58 #[va, vb] w fun e w' => e = .returned (.bool (decide (xs = ys))) ∧ ∃ m, w' = w.drewN m := by
  obtain ⟨ao, cap, rfl, a1, a2, a4⟩ := ha
  obtain ⟨bo, bap, rfl, b1, b2, b4⟩ := hb
  rw [cI_len] at a1 a4 b1 b4 ⊢
  rw [cI_len]
  have a2' : cap ≤ 9223372036854775807 := a2
  have b2' : bap ≤ 9223372036854775807 := b2
  have A4 := hide a4
  have B4 := hide b4
  obtain ⟨N, hN⟩ : ∃ N, Hid (xs.length = N) := ⟨_, (rfl : _ = _)⟩
  obtain ⟨M, hM⟩ : ∃ M, Hid (ys.length = M) := ⟨_, (rfl : _ = _)⟩
  rw [hN.out] at a1 A4 ⊢
  rw [hM.out] at b1 B4 ⊢
  clear a4 b4 a2 b2
  obtain ⟨res, hres⟩ : ∃ r, Hid (decide (xs = ys) = r) := ⟨_, (rfl : _ = _)⟩
  rw [hres.out]
  by_cases h : N = M
  · subst h
    have hne : (((N : Int) != N)) = false := by simp
    go_enter Try.func58, Try.ntmps58
    go_wp2_with fail
    go_loopw [5] (fun i wr => ∃ k m : Nat, k ≤ N ∧ i = .int .i64 k ∧ Hid (xs.take k = ys.take k) ∧ wr = w.drewN m) (fun i _ => N - (intOf i).toNat)
    case atStart => exact ⟨0, 0, Nat.zero_le _, rfl, (rfl : _ = _), rfl⟩
    case round =>
      obtain ⟨k, m, hk, rfl, HT, rfl⟩ := hrel
      by_cases hx : k < N
      · obtain ⟨ga, oa, rfl, hca⟩ := A4.out (by omega)
        obtain ⟨gb, ob, rfl, hcb⟩ := B4.out (by omega)
        obtain ⟨x, hx1⟩ : ∃ e, xs[k]? = some e := ⟨_, List.getElem?_eq_getElem (by rw [hN.out]; exact hx)⟩
        obtain ⟨y, hy1⟩ : ∃ e, ys[k]? = some e := ⟨_, List.getElem?_eq_getElem (by rw [hM.out]; exact hx)⟩
        have ca := hca k _ (cI_at xs k x hx1)
        have cb := hcb k _ (cI_at ys k y hy1)
        have HX := hide hx1
        have HY := hide hy1
        clear hca hcb hx1 hy1
        by_cases hxy : x = y
        · have hxy' : (x != y) = false := by simp [hxy]
          have HXY := hide hxy
          clear hxy
          go_upto_region 6 with fail
          go_big_quiet (fail)
          go_wp2_with fail
          go_roundw
          case rel =>
            refine ⟨k + 1, _, by omega, rfl, ?_, rfl⟩
            show xs.take (k + 1) = ys.take (k + 1)
            rw [List.take_add_one, List.take_add_one, HX.out, HY.out, HT.out, HXY.out]
          case measure => simp [intOf]; omega
        · have hxy' : (x != y) = true := by simp [hxy]
          have HXY := hide hxy
          clear hxy
          go_upto_region 6 with fail
          go_big_quiet (fail)
          go_wp2_with fail
          go_ret
          refine ⟨?_, _, World.drewN_drewN _ _ _⟩
          have e : decide (xs = ys) = false := by
            rw [decide_eq_false_iff_not]
            intro e
            subst e
            have := HX.out.symm.trans HY.out
            simp at this
            exact HXY.out this
          have e2 : res = false := by rw [← hres.out, e]
          subst e2
          rfl
      · have hlt' : ¬ (k : Int) < (N : Int) := by omega
        go_wp2_with fail
        go_ret
        refine ⟨?_, _, rfl⟩
        have h1 := HT.out
        rw [List.take_of_length_le (by rw [hN.out]; omega), List.take_of_length_le (by rw [hM.out]; omega)] at h1
        have e2 : res = true := by rw [← hres.out]; exact decide_eq_true h1
        subst e2
        rfl
  · have hne : (((N : Int) != M)) = true := by simp; omega
    have e : res = false := by
      rw [← hres.out, decide_eq_false_iff_not]
      intro e
      subst e
      exact h (hN.out.symm.trans hM.out)
    subst e
    clear h
    go_enter Try.func58, Try.ntmps58
    go_wp2_with fail
    go_ret
    exact ⟨rfl, 0, rfl⟩

/-- A snapshot as it is read. -/
structure SnV (w : World) (ac : Option Addr) (lc cc : Nat) (ad : Option Addr) (ld cd : Nat) (s : Snp) : Prop where
  conf : IsR w (.slice ac lc cc) (cI s.conf)
  data : Sl w (.slice ad ld cd) s.data
theorem SnV.below {w w' : World} {ac ad : Option Addr} {lc cc ld cd : Nat} {s : Snp} (h : SnV w ac lc cc ad ld cd s) (hb : Below w.heap.size w w') : SnV w' ac lc cc ad ld cd s := ⟨h.conf.below hb, h.data.below hb⟩
theorem snp_eta (s t : Snp) : s = t ↔ s.idx = t.idx ∧ s.term = t.term ∧ s.conf = t.conf ∧ s.data = t.data := by
  cases s; cases t; simp
def eqS (s t : Snp) : Bool := decide (s.idx = t.idx ∧ s.term = t.term ∧ s.conf = t.conf ∧ s.data = t.data)
theorem eqS_iff (s t : Snp) : eqS s t = true ↔ s = t := by rw [eqS, decide_eq_true_iff, snp_eta]
theorem beq_tx (x y : List UInt8) : ((⟨x.toArray⟩ : ByteArray).toList == (⟨y.toArray⟩ : ByteArray).toList) = decide (x = y) := by
  rw [Bool.eq_iff_iff]
  simp [Lib.toList_data]

set_option maxRecDepth 4000 in
set_option maxHeartbeats 2000000 in
theorem eqSnap_any {w : World} (s t : Snp) {ac ad bc bd : Option Addr} {lc cc ld cd mc dc md dd : Nat} (hs : SnV w ac lc cc ad ld cd s) (ht : SnV w bc mc dc bd md dd t) :
    Calls Try.prog 28 #[.agg #[.int .i64 s.idx, .int .i64 s.term, .slice ac lc cc, .slice ad ld cd], .agg #[.int .i64 t.idx, .int .i64 t.term, .slice bc mc dc, .slice bd md dd]] w fun e w' => e = .returned (.bool (eqS s t)) ∧ Hid (Below w.heap.size w w') := by
  obtain ⟨W, hW⟩ : ∃ W, Hid (W = (w.alloc (.cells #[.int .i64 s.idx, .int .i64 s.term, .slice ac lc cc, .slice ad ld cd] 62)).alloc (.cells #[.int .i64 t.idx, .int .i64 t.term, .slice bc mc dc, .slice bd md dd] 62)) := ⟨_, (rfl : _ = _)⟩
  have HB : Hid (Below w.heap.size w W) := by rw [hW.out]; exact ((Below.refl _ w).alloc (Nat.le_refl _) _).alloc (by simp) _
  have h1 : W.heap[w.heap.size]? = some (.cells #[.int .i64 s.idx, .int .i64 s.term, .slice ac lc cc, .slice ad ld cd] 62 (0, 0)) := by
    rw [hW.out]
    exact (((Below.refl _ _).alloc (Nat.le_refl _) _).block w.heap.size (by simp)).trans (heap_alloc_new _ _)
  have h2 : W.heap[w.heap.size + 1]? = some (.cells #[.int .i64 t.idx, .int .i64 t.term, .slice bc mc dc, .slice bd md dd] 62 (0, 0)) := by rw [hW.out]; exact heap_alloc2_new _ _ _
  have hs' := hs.below HB.out
  have ht' := ht.below HB.out
  obtain ⟨x0, x1, x2, x3⟩ := cells_Snp h1
  obtain ⟨y0, y1, y2, y3⟩ := cells_Snp h2
  have HE := hide (eqInts_any _ _ _ _ W hs'.conf ht'.conf)
  have hca : ∀ m, (convert 24 9 (.slice ad ld cd)).run Try.prog (W.drewN m) = .ok (.string ⟨s.data.toArray⟩) (W.drewN m) := fun m => str_of_sl (P := Try.prog) (hs'.data.below (below_drewN W m)) 24 5 9 Try.underlying24 Try.underlying5 Try.underlying9
  have hcb : ∀ m, (convert 24 9 (.slice bd md dd)).run Try.prog (W.drewN m) = .ok (.string ⟨t.data.toArray⟩) (W.drewN m) := fun m => str_of_sl (P := Try.prog) (ht'.data.below (below_drewN W m)) 24 5 9 Try.underlying24 Try.underlying5 Try.underlying9
  obtain ⟨res, hres⟩ : ∃ r, Hid (eqS s t = r) := ⟨_, (rfl : _ = _)⟩
  rw [hres.out]
  have hf : ∀ {p : Prop}, ¬ p → (s = t → p) → res = false := fun {p} hn hp => by
    rw [← hres.out, Bool.eq_false_iff]
    exact fun e => hn (hp ((eqS_iff s t).1 e))
  clear h1 h2 hs' ht' hs ht
  by_cases c1 : s.idx = t.idx
  · have g1 : (s.idx == t.idx) = true := by rw [beq_iff_eq]; exact c1
    by_cases c2 : s.term = t.term
    · have g2 : (s.term == t.term) = true := by rw [beq_iff_eq]; exact c2
      by_cases c3 : s.conf = t.conf
      · rw [decide_eq_true c3] at HE
        have hr : Hid (decide (s.data = t.data) = res) := by
          show _ = _
          rw [← hres.out, eqS]
          rw [Bool.eq_iff_iff, decide_eq_true_iff, decide_eq_true_iff]
          exact ⟨fun h => ⟨c1, c2, c3, h⟩, fun h => h.2.2.2⟩
        have hbt := beq_tx s.data t.data
        rw [hr.out] at hbt
        obtain ⟨xa, hxa⟩ : ∃ x : ByteArray, Hid (⟨s.data.toArray⟩ = x) := ⟨_, (rfl : _ = _)⟩
        obtain ⟨xb, hxb⟩ : ∃ x : ByteArray, Hid (⟨t.data.toArray⟩ = x) := ⟨_, (rfl : _ = _)⟩
        rw [hxa.out] at hca hbt
        rw [hxb.out] at hcb hbt
        clear c1 c2 c3 hf
        go_enter Try.func28, Try.ntmps28
        go_upto_region 1 with fail
        rw [← hW.out]
        go_wp2_with fail
        refine Calls.mono HE.out ?_
        rintro e w1 ⟨rfl, m, hm⟩
        subst hm
        have k2 : (W.drewN m).cell? ⟨w.heap.size, 3, none⟩ = some (.slice ad ld cd) := x3
        have k3 : (W.drewN m).cell? ⟨w.heap.size + 1, 3, none⟩ = some (.slice bd md dd) := y3
        have ka := hca m
        have kb := hcb m
        clear hca hcb
        go_wp2_with fail
        go_ret
        exact ⟨rfl, HB.out.trans ((below_drewN W m).mono HB.out.size)⟩
      · have e := hf c3 (fun h => by rw [h])
        subst e
        rw [decide_eq_false c3] at HE
        clear c1 c2 c3 hf
        go_enter Try.func28, Try.ntmps28
        go_upto_region 1 with fail
        rw [← hW.out]
        go_wp2_with fail
        refine Calls.mono HE.out ?_
        rintro e w1 ⟨rfl, m, hm⟩
        subst hm
        go_wp2_with fail
        go_ret
        exact ⟨rfl, HB.out.trans ((below_drewN W m).mono HB.out.size)⟩
    · have e := hf c2 (fun h => by rw [h])
      subst e
      have g2 : (s.term == t.term) = false := by rw [beq_eq_false_iff_ne]; exact c2
      clear c1 c2 hf
      go_enter Try.func28, Try.ntmps28
      go_upto_region 1 with fail
      rw [← hW.out]
      go_wp2_with fail
      go_ret
      exact ⟨rfl, HB.out⟩
  · have e := hf c1 (fun h => by rw [h])
    subst e
    have g1 : (s.idx == t.idx) = false := by rw [beq_eq_false_iff_ne]; exact c1
    clear c1 hf
    go_enter Try.func28, Try.ntmps28
    go_upto_region 1 with fail
    rw [← hW.out]
    go_wp2_with fail
    go_ret
    exact ⟨rfl, HB.out⟩

end Go.Proofs.Ytgknpbgepgmmmaa.Cm
namespace Go.Proofs.Ytgknpbgepgmmmaa.Cm
open Go.RowKit Bn Kp

theorem snV_of {w w' : World} {uc ud : Value} {s : Snp} (h : SnpR w w' uc ud s) : ∃ ac lc cc ad ld cd, uc = .slice ac lc cc ∧ ud = .slice ad ld cd ∧ SnV w' ac lc cc ad ld cd s := by
  obtain ⟨_, h2, h3⟩ := h
  obtain ⟨ac, lc, cc, rfl⟩ := Kp.own_slice h2
  obtain ⟨ad, ld, cd, rfl⟩ := Kp.own_slice h3
  exact ⟨ac, lc, cc, ad, ld, cd, rfl, rfl, IsR.of_own h2, Sl.of_own h3⟩
theorem readSnap_yes {w : World} {v : Value} {bs : List UInt8} (hS : Sl w v bs) (hl : bs.length ≤ 900000) {s : Snp} (h : rSnp (some bs) = ((s, some []), false)) :
    Calls Try.prog 27 #[v] w fun e w' => ∃ ac lc cc ad ld cd, e = .returned (.tuple #[.agg #[.int .i64 s.idx, .int .i64 s.term, .slice ac lc cc, .slice ad ld cd], .int .i64 0]) ∧ Hid (SnV w' ac lc cc ad ld cd s ∧ Below w.heap.size w w') := by
  have H := readSnapC_any hS hl
  rw [h] at H
  refine H.mono ?_
  rintro e w' ⟨uc, ud, he, hp⟩
  obtain ⟨ac, lc, cc, ad, ld, cd, rfl, rfl, hv⟩ := snV_of hp.out
  rw [okC_t (by rfl), okN_t (by rfl)] at he
  exact ⟨ac, lc, cc, ad, ld, cd, he, hv, hp.out.1⟩
theorem readSnap_ok {w : World} {v : Value} {bs : List UInt8} (hS : Sl w v bs) (hl : bs.length ≤ 900000) (h : okB (rSnp (some bs)).1.2 (rSnp (some bs)).2 = true) :
    Calls Try.prog 27 #[v] w fun e w' => ∃ ac lc cc ad ld cd, e = .returned (.tuple #[.agg #[.int .i64 (rSnp (some bs)).1.1.idx, .int .i64 (rSnp (some bs)).1.1.term, .slice ac lc cc, .slice ad ld cd], .int .i64 0]) ∧ Hid (SnV w' ac lc cc ad ld cd (rSnp (some bs)).1.1 ∧ Below w.heap.size w w') := by
  refine (readSnapC_any hS hl).mono ?_
  rintro e w' ⟨uc, ud, he, hp⟩
  obtain ⟨ac, lc, cc, ad, ld, cd, rfl, rfl, hv⟩ := snV_of hp.out
  rw [okC_t h, okN_t h] at he
  exact ⟨ac, lc, cc, ad, ld, cd, he, hv, hp.out.1⟩
theorem readSnap_no {w : World} {v : Value} {bs : List UInt8} (hS : Sl w v bs) (hl : bs.length ≤ 900000) (h : okB (rSnp (some bs)).1.2 (rSnp (some bs)).2 = false) :
    Calls Try.prog 27 #[v] w fun e w' => e = .returned (.tuple #[.agg #[.int .i64 0, .int .i64 0, .slice none 0 0, .slice none 0 0], .int .i64 3]) ∧ Hid (Below w.heap.size w w') := by
  refine (readSnapC_any hS hl).mono ?_
  rintro e w' ⟨uc, ud, he, hp⟩
  rw [okC_f h, okN_f h] at he
  exact ⟨he, hp.out.1⟩
/-- A snapshot's values. -/
theorem snap_enc {W : World} (s : Snp) {ac ad : Option Addr} {lc cc ld cd : Nat} (h : SnV W ac lc cc ad ld cd s) (ho : s.ok) (hl : s.conf.length ≤ 10000000000) (hl2 : s.data.length ≤ 10000000000) :
    Calls Try.prog 26 #[.agg #[.int .i64 s.idx, .int .i64 s.term, .slice ac lc cc, .slice ad ld cd]] W fun e w' => ∃ ao L cap, e = .returned (.slice ao L cap) ∧ Hid (Own8 W w' (.slice ao L cap) (encS' s)) :=
  snap_any s ac ad lc cc ld cd h.conf h.data ho hl hl2
theorem rNum_ok (st : R) : I64 (rNum st).1 := rNum_bds st
theorem rdL_ok (wr : Bool) : ∀ (n : Nat) (st : R), ∀ x ∈ (rdL rNum wr n st).1, I64 x
  | 0, st, x, h => by simp [rdL] at h
  | n + 1, none, x, h => by simp [rdL] at h
  | n + 1, some l, x, h => by
    cases wr
    · have h' : x ∈ (rNum (some l)).1 :: (rdL rNum false n (rNum (some l)).2).1 := h
      rcases List.mem_cons.1 h' with rfl | h2
      · exact rNum_ok _
      · exact rdL_ok false n _ x h2
    · rw [rdL_true] at h
      simp at h
theorem rSnp_ok (bs : List UInt8) (hl : bs.length ≤ 900000) (h : okB (rSnp (some bs)).1.2 (rSnp (some bs)).2 = true) : (rSnp (some bs)).1.1.ok ∧ (rSnp (some bs)).1.1.conf.length ≤ 900000 ∧ (rSnp (some bs)).1.1.data.length ≤ 900000 := by
  have hb := rSnp_back bs h
  have hlen := congrArg List.length hb
  simp only [encS', encT, List.length_append] at hlen
  have h1 : ∀ ns : List Int, ns.length ≤ (ns.flatMap enc).length := fun ns => by
    induction ns with
    | nil => simp
    | cons a l ih => have := enc_pos a; simp only [List.flatMap_cons, List.length_append, List.length_cons]; omega
  have h2 := h1 (rSnp (some bs)).1.1.conf
  refine ⟨⟨rNum_ok _, rNum_ok _, rdL_ok _ _ _, by omega, by omega⟩, by omega, by omega⟩

theorem encS_len (s : Snp) : (encS' s).length ≤ 40 + 10 * s.conf.length + s.data.length := by
  have h1 := enc_le s.idx
  have h2 := enc_le s.term
  have h3 := enc_le s.conf.length
  have h4 := enc_le s.data.length
  have h5 := enc_len_le s.conf
  simp only [encS', encT, List.length_append]
  omega
theorem encS_pos (s : Snp) : 0 < (encS' s).length := by
  have h1 := enc_pos s.idx
  simp only [encS', List.length_append]
  omega
theorem encS_inj (s t : Snp) (hs : s.ok) (ht : t.ok) : decide (encS' s = encS' t) = eqS s t := by
  rw [Bool.eq_iff_iff, decide_eq_true_iff, eqS_iff]
  refine ⟨fun h => ?_, fun h => by rw [h]⟩
  have h1 := rSnp_enc s hs
  rw [h, rSnp_enc t ht] at h1
  simp only [Prod.mk.injEq] at h1
  exact h1.1.1.symm
/-- What three blocks and two texts read as. -/
abbrev S11 (P Q R : Nat) (c0 c1 c2 c3 e0 e1 e2 e3 g0 g1 g2 g3 va vb : Value) (Xa Xb : ByteArray) (u : World) : Prop :=
  u.cell? ⟨P, 0, none⟩ = some c0 ∧ u.cell? ⟨P, 1, none⟩ = some c1 ∧ u.cell? ⟨P, 2, none⟩ = some c2 ∧ u.cell? ⟨P, 3, none⟩ = some c3 ∧
  u.cell? ⟨Q, 0, none⟩ = some e0 ∧ u.cell? ⟨Q, 1, none⟩ = some e1 ∧ u.cell? ⟨Q, 2, none⟩ = some e2 ∧ u.cell? ⟨Q, 3, none⟩ = some e3 ∧
  u.cell? ⟨R, 0, none⟩ = some g0 ∧ u.cell? ⟨R, 1, none⟩ = some g1 ∧ u.cell? ⟨R, 2, none⟩ = some g2 ∧ u.cell? ⟨R, 3, none⟩ = some g3 ∧
  (convert 24 9 va).run Try.prog u = .ok (.string Xa) u ∧ (convert 24 9 vb).run Try.prog u = .ok (.string Xb) u
theorem conv_sl_any {w : World} {v : Value} {t : List UInt8} {T : ByteArray} (h : Sl w v t) (hT : (⟨t.toArray⟩ : ByteArray) = T) : (convert 24 9 v).run Try.prog w = .ok (.string T) w := by
  have := str_of_sl (P := Try.prog) h 24 5 9 Try.underlying24 Try.underlying5 Try.underlying9
  rw [hT] at this
  exact this

theorem xor8 (bs : List UInt8) (k : Nat) (x : Int) (hx : 0 ≤ x ∧ x ≤ 255) : ∃ y : UInt8, bits .xor .u8 (at8 bs k) x = (y.toNat : Int) := by
  have hb := at8_bd bs k
  have h := u8_xor (at8 bs k) x hb.1 (by omega) hx.1 (by omega)
  have hlt : (at8 bs k).toNat ^^^ x.toNat < 256 := Nat.xor_lt_two_pow (n := 8) (by omega) (by omega)
  exact ⟨UInt8.ofNat ((at8 bs k).toNat ^^^ x.toNat), by rw [h, toNat_lo hlt]⟩
/-- One byte of a row of one's own is written. -/
theorem own_put {w : World} {b n i : Nat} {g : Nat} {cap : Nat} {xs : List UInt8} (h : w.ownsRow b 5 1 (.slice (some ⟨g, 0, none⟩) n cap) xs.length (cells8 xs)) (hi : i < xs.length) (y : UInt8) :
    (w.setCell ⟨g, i, none⟩ (.int .u8 (y.toNat : Int))).ownsRow b 5 1 (.slice (some ⟨g, 0, none⟩) n cap) (xs.set i y).length (cells8 (xs.set i y)) := by
  obtain ⟨h1, h2⟩ := h
  rw [List.length_set]
  refine ⟨by rw [cells8_len, List.length_set]; omega, ?_⟩
  rcases h2 with ⟨h2, h3⟩ | ⟨g', cap', cur, e1, e2, e3, e4, e5, e6, e7⟩
  · omega
  · simp only [Value.slice.injEq, Option.some.injEq, Addr.mk.injEq] at e1
    obtain ⟨⟨rfl, -, -⟩, rfl, rfl⟩ := e1
    refine Or.inr ⟨g, cap, cur.setIfInBounds i (.int .u8 (y.toNat : Int)), rfl, e2, heap_setCell_same w g i _ 5 _ e3, e4, e5, by simpa using e6, ?_⟩
    rw [Array.toList_setIfInBounds, List.take_set, e7]
    simp [cells8, List.map_set]

end Go.Proofs.Ytgknpbgepgmmmaa.Cm
namespace Go.Proofs.Ytgknpbgepgmmmaa.Cm
open Go.RowKit Bn Kp

/-- A snapshot whose lists came in (they are read in w); its block lies at S. -/
def SnS (w W : World) (S : Nat) (s : Snp) : Prop :=
  ∃ ac lc cc ad ld cd, W.heap[S]? = some (.cells #[.int .i64 s.idx, .int .i64 s.term, .slice ac lc cc, .slice ad ld cd] 62 (0, 0)) ∧ SnV w ac lc cc ad ld cd s
theorem SnS.below {w W W' : World} {S : Nat} {s : Snp} (h : SnS w W S s) (hb : Below W.heap.size W W') : SnS w W' S s := by
  obtain ⟨ac, lc, cc, ad, ld, cd, h1, h2⟩ := h
  exact ⟨ac, lc, cc, ad, ld, cd, (hb.block _ (lt_of_block h1)).trans h1, h2⟩
/-- The two snapshots of the law. -/
structure Two (w W : World) (s t : Snp) : Prop where
  s : SnS w W w.heap.size s
  t : SnS w W (w.heap.size + 1) t
  b : Below w.heap.size w W
theorem Two.below {w W W' : World} {s t : Snp} (h : Two w W s t) (hb : Below W.heap.size W W') : Two w W' s t := ⟨h.s.below hb, h.t.below hb, h.b.trans (hb.mono h.b.size)⟩

theorem isR_take {w : World} {ao : Option Addr} {l c : Nat} {ns : List Int} (h : IsR w (.slice ao l c) (cI ns)) (k : Nat) (hk : k ≤ l) : IsR w (.slice ao k c) (cI (ns.take k)) := by
  obtain ⟨ao', c', e, h1, h2, h4⟩ := h
  simp only [Value.slice.injEq] at e
  obtain ⟨rfl, rfl, rfl⟩ := e
  rw [cI_len] at h1 h4 hk
  have hl : (cI (ns.take k)).length = k := by rw [cI_len, List.length_take]; omega
  refine ⟨ao, c, by rw [hl], by omega, h2, fun hp => ?_⟩
  rw [hl] at hp
  obtain ⟨g, off, ha, hc⟩ := h4 (by omega)
  refine ⟨g, off, ha, fun j u hj => hc j u ?_⟩
  have e : cI (ns.take k) = (cI ns).take k := by simp [cI, List.map_take]
  rw [e, List.getElem?_take] at hj
  split at hj
  · exact hj
  · simp at hj

theorem short_v (ao : Option Addr) (l c : Nat) (W : World) (h1 : l ≤ c) (h2 : c ≤ maxLen) :
    Calls Try.prog 14 #[.slice ao l c, .int .i64 100] W fun e w' => e = .returned (.slice ao (min l 100) c) ∧ w' = W := by
  have h2' : c ≤ 9223372036854775807 := h2
  by_cases hl : 100 < l
  · have hl' : (100 : Int) < (l : Int) := by omega
    have hc : (100 : Int) ≤ (c : Int) := by omega
    have hm := hide (Nat.min_eq_right (show 100 ≤ l by omega))
    rw [hm.out]
    clear hl
    go_enter Try.func14, Try.ntmps14
    go_wp2_with fail
    go_ret
    exact ⟨rfl, rfl⟩
  · have hl' : ¬ (100 : Int) < (l : Int) := by omega
    have hm := hide (Nat.min_eq_left (show l ≤ 100 by omega))
    rw [hm.out]
    clear hl
    go_enter Try.func14, Try.ntmps14
    go_wp2_with fail
    go_ret
    exact ⟨rfl, rfl⟩
/-- The data cut to a hundred bytes, the members to nine. -/
def cutD (s : Snp) : Snp := ⟨s.idx, s.term, s.conf, s.data.take 100⟩
def cutN (s : Snp) : Snp := ⟨s.idx, s.term, s.conf.take 9, s.data⟩
theorem sl_take_min {w : World} {ao : Option Addr} {l c : Nat} {bs : List UInt8} (h : Sl w (.slice ao l c) bs) : Sl w (.slice ao (min l 100) c) (bs.take 100) := by
  have hl := h.len
  by_cases h1 : l ≤ 100
  · rw [Nat.min_eq_left h1, List.take_of_length_le (by omega)]
    exact h
  · rw [Nat.min_eq_right (by omega)]
    exact h.take 100 (by omega)

theorem sl_caps {w : World} {ao : Option Addr} {l c : Nat} {bs : List UInt8} (h : Sl w (.slice ao l c) bs) : l ≤ c ∧ c ≤ maxLen := by
  obtain ⟨_, _, e, h1, h2, _⟩ := h
  simp only [Value.slice.injEq] at e
  obtain ⟨rfl, rfl, rfl⟩ := e
  exact ⟨h1, h2⟩
theorem isR_caps {w : World} {ao : Option Addr} {l c : Nat} {xs : List Value} (h : IsR w (.slice ao l c) xs) : l = xs.length ∧ l ≤ c ∧ c ≤ maxLen := by
  obtain ⟨_, _, e, h1, h2, _⟩ := h
  simp only [Value.slice.injEq] at e
  obtain ⟨rfl, rfl, rfl⟩ := e
  exact ⟨rfl, h1, h2⟩

/-- What one block and one text read as. -/
abbrev S4 (P : Nat) (c0 c1 c2 c3 va : Value) (Xa : ByteArray) (u : World) : Prop :=
  u.cell? ⟨P, 0, none⟩ = some c0 ∧ u.cell? ⟨P, 1, none⟩ = some c1 ∧ u.cell? ⟨P, 2, none⟩ = some c2 ∧ u.cell? ⟨P, 3, none⟩ = some c3 ∧ (convert 24 9 va).run Try.prog u = .ok (.string Xa) u
/-- What the two blocks read as. -/
abbrev SS (u w : World) (s1 t1 : Snp) (ac : Option Addr) (nc cc : Nat) (ad : Option Addr) (nd cd : Nat) (bc : Option Addr) (oc dc : Nat) (bd : Option Addr) (ne dd : Nat) : Prop :=
  (u.cell? ⟨w.heap.size, 0, none⟩ = some (.int .i64 s1.idx) ∧ u.cell? ⟨w.heap.size, 1, none⟩ = some (.int .i64 s1.term) ∧ u.cell? ⟨w.heap.size, 2, none⟩ = some (.slice ac nc cc) ∧ u.cell? ⟨w.heap.size, 3, none⟩ = some (.slice ad nd cd)) ∧
  (u.cell? ⟨w.heap.size + 1, 0, none⟩ = some (.int .i64 t1.idx) ∧ u.cell? ⟨w.heap.size + 1, 1, none⟩ = some (.int .i64 t1.term) ∧ u.cell? ⟨w.heap.size + 1, 2, none⟩ = some (.slice bc oc dc) ∧ u.cell? ⟨w.heap.size + 1, 3, none⟩ = some (.slice bd ne dd))
theorem ss_of {W w : World} {s1 t1 : Snp} {ac : Option Addr} {nc cc : Nat} {ad : Option Addr} {nd cd : Nat} {bc : Option Addr} {oc dc : Nat} {bd : Option Addr} {ne dd : Nat} (h1 : W.heap[w.heap.size]? = some (.cells #[.int .i64 s1.idx, .int .i64 s1.term, .slice ac nc cc, .slice ad nd cd] 62 (0, 0))) (h2 : W.heap[w.heap.size + 1]? = some (.cells #[.int .i64 t1.idx, .int .i64 t1.term, .slice bc oc dc, .slice bd ne dd] 62 (0, 0))) : SS W w s1 t1 ac nc cc ad nd cd bc oc dc bd ne dd := ⟨cells_Snp h1, cells_Snp h2⟩

set_option maxRecDepth 4000 in
set_option maxHeartbeats 8000000 in
theorem snap_law {w : World} (s t : Snp) {ac ad bc bd : Option Addr} {lc cc ld cd mc dc md dd : Nat} (hs : SnV w ac lc cc ad ld cd s) (ht : SnV w bc mc dc bd md dd t) (hso : s.ok) (hto : t.ok) (at_ : Int) (x : Int) (hx : 0 ≤ x ∧ x ≤ 255) :
    Calls Try.prog 6 #[.agg #[.int .i64 s.idx, .int .i64 s.term, .slice ac lc cc, .slice ad ld cd], .agg #[.int .i64 t.idx, .int .i64 t.term, .slice bc mc dc, .slice bd md dd], .int .i64 at_, .int .u8 x] w fun e w' => e = .returned (.bool true) ∧ Below w.heap.size w w' := by
  obtain ⟨W0, hW⟩ : ∃ W, Hid (W = (w.alloc (.cells #[.int .i64 s.idx, .int .i64 s.term, .slice ac lc cc, .slice ad ld cd] 62)).alloc (.cells #[.int .i64 t.idx, .int .i64 t.term, .slice bc mc dc, .slice bd md dd] 62)) := ⟨_, (rfl : _ = _)⟩
  have HB0 : Hid (Below w.heap.size w W0) := by rw [hW.out]; exact ((Below.refl _ w).alloc (Nat.le_refl _) _).alloc (by simp) _
  have HX1 : Hid (W0.heap[w.heap.size]? = some (.cells #[.int .i64 s.idx, .int .i64 s.term, .slice ac lc cc, .slice ad ld cd] 62 (0, 0))) := by
    rw [hW.out]
    exact (((Below.refl _ _).alloc (Nat.le_refl _) _).block w.heap.size (by simp)).trans (heap_alloc_new _ _)
  have HX2 : Hid (W0.heap[w.heap.size + 1]? = some (.cells #[.int .i64 t.idx, .int .i64 t.term, .slice bc mc dc, .slice bd md dd] 62 (0, 0))) := by rw [hW.out]; exact heap_alloc2_new _ _ _
  have HG := hide (begun_any W0)
  have HS := hide hs
  have HT := hide ht
  have HSO := hide hso
  have HTO := hide hto
  have hS1 := HS.out.data
  have hT1 := HT.out.data
  obtain ⟨p1, p2⟩ := sl_caps hS1
  obtain ⟨r1, r2⟩ := sl_caps hT1
  have HSH1 := hide (fun W => short_v ad ld cd W p1 p2)
  have HSH2 := hide (fun W => short_v bd md dd W r1 r2)
  obtain ⟨nd, hnd⟩ : ∃ n, Hid (min ld 100 = n) := ⟨_, (rfl : _ = _)⟩
  obtain ⟨ne, hne⟩ : ∃ n, Hid (min md 100 = n) := ⟨_, (rfl : _ = _)⟩
  rw [hnd.out] at HSH1
  rw [hne.out] at HSH2
  have HD1 : Hid (Sl w (.slice ad nd cd) (s.data.take 100)) := by rw [← hnd.out]; exact sl_take_min hS1
  have HD2 : Hid (Sl w (.slice bd ne dd) (t.data.take 100)) := by rw [← hne.out]; exact sl_take_min hT1
  clear hs ht hso hto hS1 hT1 p1 p2 r1 r2
  go_enter Try.func6, Try.ntmps6
  go_upto_region 1 with fail
  rw [← hW.out]
  go_wp2_with fail
  refine Calls.mono HG.out ?_
  rintro e w1 ⟨rfl, HB1⟩
  have hx1 := (HB1.out.block _ (lt_of_block HX1.out)).trans HX1.out
  have hx2 := (HB1.out.block _ (lt_of_block HX2.out)).trans HX2.out
  have HY1 := hide hx1
  have HY2 := hide hx2
  obtain ⟨a0, a1, a2, a3⟩ := cells_Snp hx1
  obtain ⟨b0, b1, b2, b3⟩ := cells_Snp hx2
  have fa := fun i => frozen_of_row w1 _ i _ _ hx1
  have fb := fun i => frozen_of_row w1 _ i _ _ hx2
  have HBw1 := hide (HB0.out.trans (HB1.out.mono HB0.out.size))
  clear HG HB1 hx1 hx2 HX1 HX2
  go_upto_region 4 with fail
  go_cut [] from 19 to 27 (fun wc => wc.heap[w.heap.size]? = some (.cells #[.int .i64 s.idx, .int .i64 s.term, .slice ac lc cc, .slice ad nd cd] 62 (0, 0)) ∧ wc.heap[w.heap.size + 1]? = some (.cells #[.int .i64 t.idx, .int .i64 t.term, .slice bc mc dc, .slice bd ne dd] 62 (0, 0)) ∧ Hid (Below w.heap.size w wc))
  case first =>
    have S1 := hide (HSH1.out w1.drew)
    have S2 := hide (HSH2.out w1.drew)
    have hfin : Hid (((w1.setCell ⟨w.heap.size, 3, none⟩ (.slice ad nd cd)).setCell ⟨w.heap.size + 1, 3, none⟩ (.slice bd ne dd)).heap[w.heap.size]? = some (.cells #[.int .i64 s.idx, .int .i64 s.term, .slice ac lc cc, .slice ad nd cd] 62 (0, 0)) ∧ ((w1.setCell ⟨w.heap.size, 3, none⟩ (.slice ad nd cd)).setCell ⟨w.heap.size + 1, 3, none⟩ (.slice bd ne dd)).heap[w.heap.size + 1]? = some (.cells #[.int .i64 t.idx, .int .i64 t.term, .slice bc mc dc, .slice bd ne dd] 62 (0, 0)) ∧ Hid (Below w.heap.size w ((w1.setCell ⟨w.heap.size, 3, none⟩ (.slice ad nd cd)).setCell ⟨w.heap.size + 1, 3, none⟩ (.slice bd ne dd)))) := by
      refine ⟨?_, ?_, ?_⟩
      · rw [Below.heap_setCell _ _ _ _ (show w.heap.size ≠ w.heap.size + 1 by omega)]
        exact heap_setCell_same w1 _ 3 _ 62 _ HY1.out
      · have h := (Below.heap_setCell w1 ⟨w.heap.size, 3, none⟩ (.slice ad nd cd) (w.heap.size + 1) (show w.heap.size + 1 ≠ w.heap.size by omega)).trans HY2.out
        exact heap_setCell_same _ _ 3 _ 62 _ h
      · exact (HBw1.out.setCell (p := ⟨w.heap.size, 3, none⟩) (Nat.le_refl _) _).setCell (p := ⟨w.heap.size + 1, 3, none⟩) (by show _ ≤ w.heap.size + 1; omega) _
    refine wp_region_noPanic ?_
    go_region_with (first
      | (go_at_call 14; (with_reducible refine Calls.mono S1.out ?_); rintro e w2 ⟨rfl, hw2⟩; have hw2' := hw2.symm; subst hw2')
      | (go_at_call 14; (with_reducible refine Calls.mono S2.out ?_); rintro e w2 ⟨rfl, hw2⟩; have hw2' := hw2.symm; subst hw2'))
    all_goals refine NoPanic.normal ?_
    all_goals go_wp2_with fail
    all_goals go_meet
    all_goals exact ⟨hfin.out.1, hfin.out.2.1, hfin.out.2.2.out.drew⟩
  case rest =>
    obtain ⟨h1, h2, HB2⟩ := hcut
    clear a0 a1 a2 a3 b0 b1 b2 b3 fa fb HSH1 HSH2 HY1 HY2 HBw1
    obtain ⟨w2, hw2⟩ : ∃ x, x = wc := ⟨_, rfl⟩
    subst hw2
    obtain ⟨a0, a1, a2, a3⟩ := cells_Snp h1
    have fa := fun i => frozen_of_row w2 _ i _ _ h1
    have H1 := hide h1
    have H2 := hide h2
    obtain ⟨el, l1, l2⟩ := isR_caps HS.out.conf
    obtain ⟨em, m1, m2⟩ := isR_caps HT.out.conf
    have EL := hide el
    have EM := hide em
    have l2' : cc ≤ 9223372036854775807 := l2
    have m2' : dc ≤ 9223372036854775807 := m2
    clear h1 h2 el em l2 m2
    go_upto_if 30 with fail
    go_cut [] from 30 to 35 (fun wc => ∃ nc, wc.heap[w.heap.size]? = some (.cells #[.int .i64 s.idx, .int .i64 s.term, .slice ac nc cc, .slice ad nd cd] 62 (0, 0)) ∧ wc.heap[w.heap.size + 1]? = some (.cells #[.int .i64 t.idx, .int .i64 t.term, .slice bc mc dc, .slice bd ne dd] 62 (0, 0)) ∧ Hid (Below w.heap.size w wc) ∧ Hid (IsR w (.slice ac nc cc) (cI (s.conf.take 9))))
    case first =>
      by_cases hl : 9 < lc
      · have hlI : (9 : Int) < (lc : Int) := by omega
        have hcI : (9 : Int) ≤ (cc : Int) := by omega
        have hq : Hid ((w2.setCell ⟨w.heap.size, 2, none⟩ (.slice ac 9 cc)).heap[w.heap.size]? = some (.cells #[.int .i64 s.idx, .int .i64 s.term, .slice ac 9 cc, .slice ad nd cd] 62 (0, 0)) ∧ (w2.setCell ⟨w.heap.size, 2, none⟩ (.slice ac 9 cc)).heap[w.heap.size + 1]? = some (.cells #[.int .i64 t.idx, .int .i64 t.term, .slice bc mc dc, .slice bd ne dd] 62 (0, 0)) ∧ Hid (Below w.heap.size w (w2.setCell ⟨w.heap.size, 2, none⟩ (.slice ac 9 cc))) ∧ Hid (IsR w (.slice ac 9 cc) (cI (s.conf.take 9)))) :=
          ⟨heap_setCell_same w2 _ 2 _ 62 _ H1.out, (Below.heap_setCell _ _ _ _ (show w.heap.size + 1 ≠ w.heap.size by omega)).trans H2.out, HB2.out.setCell (p := ⟨w.heap.size, 2, none⟩) (Nat.le_refl _) _, isR_take HS.out.conf 9 (by omega)⟩
        clear hl
        go_wp2_with fail
        go_meet
        exact ⟨9, hq.out⟩
      · have hlI : ¬ (9 : Int) < (lc : Int) := by omega
        have hq : Hid (IsR w (.slice ac lc cc) (cI (s.conf.take 9))) := by
          have h9 := EL.out
          rw [cI_len] at h9
          rw [List.take_of_length_le (by omega)]
          exact HS.out.conf
        clear hl
        go_wp2_with fail
        go_meet
        exact ⟨lc, H1.out, H2.out, HB2, hq⟩
    case rest =>
      obtain ⟨nc, h1, h2, HB3, HN1⟩ := hcut
      clear a0 a1 a2 a3 fa H1 H2 HB2
      obtain ⟨w3, hw3⟩ : ∃ x, x = wc := ⟨_, rfl⟩
      subst hw3
      obtain ⟨b0, b1, b2, b3⟩ := cells_Snp h2
      have fb := fun i => frozen_of_row w3 _ i _ _ h2
      have H1 := hide h1
      have H2 := hide h2
      clear h1 h2
      go_upto_if 38 with fail
      go_cut [] from 38 to 43 (fun wc => ∃ oc, wc.heap[w.heap.size]? = some (.cells #[.int .i64 s.idx, .int .i64 s.term, .slice ac nc cc, .slice ad nd cd] 62 (0, 0)) ∧ wc.heap[w.heap.size + 1]? = some (.cells #[.int .i64 t.idx, .int .i64 t.term, .slice bc oc dc, .slice bd ne dd] 62 (0, 0)) ∧ Hid (Below w.heap.size w wc) ∧ Hid (IsR w (.slice bc oc dc) (cI (t.conf.take 9))))
      case first =>
        by_cases hl : 9 < mc
        · have hlI : (9 : Int) < (mc : Int) := by omega
          have hcI : (9 : Int) ≤ (dc : Int) := by omega
          have hq : Hid ((w3.setCell ⟨w.heap.size + 1, 2, none⟩ (.slice bc 9 dc)).heap[w.heap.size]? = some (.cells #[.int .i64 s.idx, .int .i64 s.term, .slice ac nc cc, .slice ad nd cd] 62 (0, 0)) ∧ (w3.setCell ⟨w.heap.size + 1, 2, none⟩ (.slice bc 9 dc)).heap[w.heap.size + 1]? = some (.cells #[.int .i64 t.idx, .int .i64 t.term, .slice bc 9 dc, .slice bd ne dd] 62 (0, 0)) ∧ Hid (Below w.heap.size w (w3.setCell ⟨w.heap.size + 1, 2, none⟩ (.slice bc 9 dc))) ∧ Hid (IsR w (.slice bc 9 dc) (cI (t.conf.take 9)))) :=
            ⟨(Below.heap_setCell _ _ _ _ (show w.heap.size ≠ w.heap.size + 1 by omega)).trans H1.out, heap_setCell_same w3 _ 2 _ 62 _ H2.out, HB3.out.setCell (p := ⟨w.heap.size + 1, 2, none⟩) (by show _ ≤ w.heap.size + 1; omega) _, isR_take HT.out.conf 9 (by omega)⟩
          clear hl
          go_wp2_with fail
          go_meet
          exact ⟨9, hq.out⟩
        · have hlI : ¬ (9 : Int) < (mc : Int) := by omega
          have hq : Hid (IsR w (.slice bc mc dc) (cI (t.conf.take 9))) := by
            have h9 := EM.out
            rw [cI_len] at h9
            rw [List.take_of_length_le (by omega)]
            exact HT.out.conf
          clear hl
          go_wp2_with fail
          go_meet
          exact ⟨mc, H1.out, H2.out, HB3, hq⟩
      case rest =>
        obtain ⟨oc, h1, h2, HB4, HN2⟩ := hcut
        clear b0 b1 b2 b3 fb H1 H2 HB3 EL EM l1 l2' m1 m2'
        obtain ⟨w4, hw4⟩ : ∃ x, x = wc := ⟨_, rfl⟩
        subst hw4
        obtain ⟨s1, hs1⟩ : ∃ s1 : Snp, Hid (s1 = ⟨s.idx, s.term, s.conf.take 9, s.data.take 100⟩) := ⟨_, (rfl : _ = _)⟩
        obtain ⟨t1, ht1⟩ : ∃ s1 : Snp, Hid (s1 = ⟨t.idx, t.term, t.conf.take 9, t.data.take 100⟩) := ⟨_, (rfl : _ = _)⟩
        have hi1 : s.idx = s1.idx := by rw [hs1.out]
        have hi2 : s.term = s1.term := by rw [hs1.out]
        have hi3 : t.idx = t1.idx := by rw [ht1.out]
        have hi4 : t.term = t1.term := by rw [ht1.out]
        have HV1 : Hid (SnV w ac nc cc ad nd cd s1) := by rw [hs1.out]; exact ⟨HN1.out, HD1.out⟩
        have HV2 : Hid (SnV w bc oc dc bd ne dd t1) := by rw [ht1.out]; exact ⟨HN2.out, HD2.out⟩
        have HO1 : Hid (s1.ok ∧ s1.conf.length ≤ 9 ∧ s1.data.length ≤ 100) := by
          obtain ⟨o1, o2, o3, o4, o5⟩ := HSO.out
          rw [hs1.out]
          refine ⟨⟨o1, o2, fun n hn => o3 n (List.mem_of_mem_take hn), ?_, ?_⟩, ?_, ?_⟩
          · simp only [List.length_take]; omega
          · simp only [List.length_take]; omega
          · simp only [List.length_take]; omega
          · simp only [List.length_take]; omega
        have HO2 : Hid (t1.ok ∧ t1.conf.length ≤ 9 ∧ t1.data.length ≤ 100) := by
          obtain ⟨o1, o2, o3, o4, o5⟩ := HTO.out
          rw [ht1.out]
          refine ⟨⟨o1, o2, fun n hn => o3 n (List.mem_of_mem_take hn), ?_, ?_⟩, ?_, ?_⟩
          · simp only [List.length_take]; omega
          · simp only [List.length_take]; omega
          · simp only [List.length_take]; omega
          · simp only [List.length_take]; omega
        rw [hi1, hi2] at h1
        rw [hi3, hi4] at h2
        have H1 := hide h1
        have H2 := hide h2
        clear HS HT HSO HTO HD1 HD2 HN1 HN2 hnd hne h1 h2 hs1 ht1 hi1 hi2 hi3 hi4
        have HC1 : Hid (Calls Try.prog 26 #[.agg #[.int .i64 s1.idx, .int .i64 s1.term, .slice ac nc cc, .slice ad nd cd]] w4.drew fun e w5 => ∃ ao L cap, e = .returned (.slice ao L cap) ∧ (w5.heap[w.heap.size]? = some (.cells #[.int .i64 s1.idx, .int .i64 s1.term, .slice ac nc cc, .slice ad nd cd] 62 (0, 0)) ∧ w5.heap[w.heap.size + 1]? = some (.cells #[.int .i64 t1.idx, .int .i64 t1.term, .slice bc oc dc, .slice bd ne dd] 62 (0, 0))) ∧ Hid (Below w.heap.size w w5 ∧ w5.ownsRow w4.heap.size 5 1 (.slice ao L cap) (encS' s1).length (cells8 (encS' s1)))) := by
          refine (snap_enc s1 (HV1.out.below HB4.out.drew) HO1.out.1 (by have := HO1.out.2.1; omega) (by have := HO1.out.2.2; omega)).mono ?_
          rintro e w5 ⟨ao, L, cap, rfl, hp⟩
          exact ⟨ao, L, cap, rfl, ⟨(hp.out.2.block _ (lt_of_block H1.out)).trans H1.out, (hp.out.2.block _ (lt_of_block H2.out)).trans H2.out⟩, HB4.out.drew.trans (hp.out.2.mono HB4.out.drew.size), hp.out.1⟩
        have HC2 : Hid (∀ w5 : World, Below w.heap.size w w5 → w5.heap[w.heap.size]? = some (.cells #[.int .i64 s1.idx, .int .i64 s1.term, .slice ac nc cc, .slice ad nd cd] 62 (0, 0)) → w5.heap[w.heap.size + 1]? = some (.cells #[.int .i64 t1.idx, .int .i64 t1.term, .slice bc oc dc, .slice bd ne dd] 62 (0, 0)) → Calls Try.prog 26 #[.agg #[.int .i64 t1.idx, .int .i64 t1.term, .slice bc oc dc, .slice bd ne dd]] w5 fun e w6 => ∃ ao L cap, e = .returned (.slice ao L cap) ∧ (w6.heap[w.heap.size]? = some (.cells #[.int .i64 s1.idx, .int .i64 s1.term, .slice ac nc cc, .slice ad nd cd] 62 (0, 0)) ∧ w6.heap[w.heap.size + 1]? = some (.cells #[.int .i64 t1.idx, .int .i64 t1.term, .slice bc oc dc, .slice bd ne dd] 62 (0, 0))) ∧ Hid (Below w5.heap.size w5 w6 ∧ w6.ownsRow w5.heap.size 5 1 (.slice ao L cap) (encS' t1).length (cells8 (encS' t1)))) := fun w5 hb g1 g2 => by
          refine (snap_enc t1 (HV2.out.below hb) HO2.out.1 (by have := HO2.out.2.1; omega) (by have := HO2.out.2.2; omega)).mono ?_
          rintro e w6 ⟨ao, L, cap, rfl, hp⟩
          exact ⟨ao, L, cap, rfl, ⟨(hp.out.2.block _ (lt_of_block g1)).trans g1, (hp.out.2.block _ (lt_of_block g2)).trans g2⟩, hp.out.2, hp.out.1⟩
        go_upto_region 9 with fail
        go_cut [10, 11] from 43 to 47 (fun va vb wc => ∃ aa la ca ab lb cb, va = .slice aa la ca ∧ vb = .slice ab lb cb ∧ wc.heap[w.heap.size]? = some (.cells #[.int .i64 s1.idx, .int .i64 s1.term, .slice ac nc cc, .slice ad nd cd] 62 (0, 0)) ∧ wc.heap[w.heap.size + 1]? = some (.cells #[.int .i64 t1.idx, .int .i64 t1.term, .slice bc oc dc, .slice bd ne dd] 62 (0, 0)) ∧ Hid (Below w.heap.size w wc ∧ Sl wc (.slice aa la ca) (encS' s1) ∧ Sl wc (.slice ab lb cb) (encS' t1)))
        case first =>
          have d0 : SS w4 w s1 t1 ac nc cc ad nd cd bc oc dc bd ne dd := ss_of H1.out H2.out
          have d1 : SS w4.drew w s1 t1 ac nc cc ad nd cd bc oc dc bd ne dd := ss_of (W := w4.drew) H1.out H2.out
          refine wp_region_noPanic ?_
          go_region_held (fun u => SS u w s1 t1 ac nc cc ad nd cd bc oc dc bd ne dd) (first | with_reducible exact d0 | with_reducible exact d1 | with_reducible exact d2 | with_reducible exact d3)
            (first
              | (go_at_call 26; first
                | (have mm := HC3; (with_reducible refine Calls.mono HC3.out ?_); rintro e w6 ⟨ab, lb, cb, rfl, g6, HP6⟩; have d3 : SS w6 w s1 t1 ac nc cc ad nd cd bc oc dc bd ne dd := ss_of g6.1 g6.2)
                | ((with_reducible refine Calls.mono HC1.out ?_); rintro e w5 ⟨aa, la, ca, rfl, g5, HP5⟩; have d2 : SS w5 w s1 t1 ac nc cc ad nd cd bc oc dc bd ne dd := ss_of g5.1 g5.2; have HC3 := hide (HC2.out w5 HP5.out.1 g5.1 g5.2))))
          all_goals refine NoPanic.normal ?_
          all_goals go_wp2_with fail
          all_goals go_meet
          all_goals exact ⟨aa, la, ca, ab, lb, cb, rfl, rfl, g6.1, g6.2, HP5.out.1.trans (HP6.out.1.mono HP5.out.1.size), (Sl.of_own HP5.out.2).below HP6.out.1, Sl.of_own HP6.out.2⟩
        case rest =>
          obtain ⟨aa, la, ca, ab, lb, cb, rfl, rfl, h1, h2, HQ⟩ := hcut
          clear HC1 HC2 H1 H2 HB4
          obtain ⟨w5, hw5⟩ : ∃ x, x = wc := ⟨_, rfl⟩
          subst hw5
          have H1 := hide h1
          have H2 := hide h2
          clear h1 h2
          have HL1 : Hid ((encS' s1).length ≤ 900000) := by
            have h := encS_len s1
            have h' := HO1.out
            show _ ≤ _
            omega
          have HR := hide (readSnap_yes HQ.out.2.1 HL1.out (rSnp_enc s1 HO1.out.1))
          go_wp2_with fail
          refine Calls.mono HR.out ?_
          rintro e w6 ⟨kc, klc, kcc, kd, kld, kcd, rfl, HP6⟩
          clear HR
          obtain ⟨w7, hw7⟩ : ∃ x, Hid (x = w6.alloc (.cells #[.int .i64 s1.idx, .int .i64 s1.term, .slice kc klc kcc, .slice kd kld kcd] 62)) := ⟨_, (rfl : _ = _)⟩
          have HB67 : Hid (Below w5.heap.size w5 w7) := by rw [hw7.out]; exact HP6.out.2.alloc HP6.out.2.size _
          have HK : Hid (w7.heap[w6.heap.size]? = some (.cells #[.int .i64 s1.idx, .int .i64 s1.term, .slice kc klc kcc, .slice kd kld kcd] 62 (0, 0))) := by rw [hw7.out]; exact heap_alloc_new _ _
          have HKV : Hid (SnV w7 kc klc kcc kd kld kcd s1) := by rw [hw7.out]; exact HP6.out.1.below ((Below.refl _ _).alloc (Nat.le_refl _) _)
          have HB7 := hide (HQ.out.1.trans (HB67.out.mono HQ.out.1.size))
          have HA7 := hide (HQ.out.2.1.below HB67.out)
          have HBb7 := hide (HQ.out.2.2.below HB67.out)
          have G1 := hide ((HB67.out.block _ (lt_of_block H1.out)).trans H1.out)
          have G2 := hide ((HB67.out.block _ (lt_of_block H2.out)).trans H2.out)
          clear H1 H2 HP6 HB67 HQ
          go_upto_region 11 with fail
          rw [← hw7.out]
          obtain ⟨P, hP⟩ : ∃ P, Hid (w6.heap.size = P) := ⟨_, (rfl : _ = _)⟩
          rw [hP.out] at HK ⊢
          obtain ⟨r, hr⟩ : ∃ r, Hid (eqS s1 t1 = r) := ⟨_, (rfl : _ = _)⟩
          obtain ⟨Xa, hXa⟩ : ∃ X : ByteArray, Hid (⟨(encS' s1).toArray⟩ = X) := ⟨_, (rfl : _ = _)⟩
          obtain ⟨Xb, hXb⟩ : ∃ X : ByteArray, Hid (⟨(encS' t1).toArray⟩ = X) := ⟨_, (rfl : _ = _)⟩
          have hbeq : (Xa.toList == Xb.toList) = r := by rw [← hXa.out, ← hXb.out, beq_tx, encS_inj s1 t1 HO1.out.1 HO2.out.1, hr.out]
          have HBEQ := hide hbeq
          have HSS : Hid (∀ u, Below w7.heap.size w7 u → S11 P w.heap.size (w.heap.size + 1) (.int .i64 s1.idx) (.int .i64 s1.term) (.slice kc klc kcc) (.slice kd kld kcd) (.int .i64 s1.idx) (.int .i64 s1.term) (.slice ac nc cc) (.slice ad nd cd) (.int .i64 t1.idx) (.int .i64 t1.term) (.slice bc oc dc) (.slice bd ne dd) (.slice aa la ca) (.slice ab lb cb) Xa Xb u) := fun u hu => by
            obtain ⟨x0, x1, x2, x3⟩ := cells_Snp ((hu.block _ (lt_of_block HK.out)).trans HK.out)
            obtain ⟨y0, y1, y2, y3⟩ := cells_Snp ((hu.block _ (lt_of_block G1.out)).trans G1.out)
            obtain ⟨z0, z1, z2, z3⟩ := cells_Snp ((hu.block _ (lt_of_block G2.out)).trans G2.out)
            exact ⟨x0, x1, x2, x3, y0, y1, y2, y3, z0, z1, z2, z3, conv_sl_any (HA7.out.below hu) hXa.out, conv_sl_any (HBb7.out.below hu) hXb.out⟩
          have HE1 : Hid (Calls Try.prog 28 #[.agg #[.int .i64 s1.idx, .int .i64 s1.term, .slice kc klc kcc, .slice kd kld kcd], .agg #[.int .i64 s1.idx, .int .i64 s1.term, .slice ac nc cc, .slice ad nd cd]] w7.drew fun e w8 => e = .returned (.bool true) ∧ Hid (Below w7.heap.size w7 w8)) := by
            refine (eqSnap_any s1 s1 (HKV.out.below (Below.refl _ _).drew) (HV1.out.below HB7.out.drew)).mono ?_
            rintro e w8 ⟨rfl, hp⟩
            exact ⟨by rw [(eqS_iff s1 s1).2 rfl], (Below.refl _ _).drew.trans hp.out⟩
          have HE2 : Hid (∀ w8 : World, Below w7.heap.size w7 w8 → Calls Try.prog 28 #[.agg #[.int .i64 s1.idx, .int .i64 s1.term, .slice ac nc cc, .slice ad nd cd], .agg #[.int .i64 t1.idx, .int .i64 t1.term, .slice bc oc dc, .slice bd ne dd]] w8 fun e w9 => e = .returned (.bool r) ∧ Hid (Below w7.heap.size w7 w9)) := fun w8 h8 => by
            have hb8 := HB7.out.trans (h8.mono HB7.out.size)
            have h := eqSnap_any s1 t1 (HV1.out.below hb8) (HV2.out.below hb8)
            rw [hr.out] at h
            refine h.mono ?_
            rintro e w9 ⟨rfl, hp⟩
            exact ⟨rfl, h8.trans (hp.out.mono h8.size)⟩
          clear hbeq
          go_cut [70] from 52 to 71 (fun v wc => v = .bool false ∧ Hid (Below w.heap.size w wc ∧ Sl wc (.slice aa la ca) (encS' s1)))
          case first =>
            have d0 := HSS.out w7 (Below.refl _ _)
            have d1 := HSS.out w7.drew (Below.refl _ _).drew
            cases r
            all_goals
              have hbq := HBEQ.out
              refine wp_region_noPanic ?_
              go_region_held (fun u => S11 P w.heap.size (w.heap.size + 1) (.int .i64 s1.idx) (.int .i64 s1.term) (.slice kc klc kcc) (.slice kd kld kcd) (.int .i64 s1.idx) (.int .i64 s1.term) (.slice ac nc cc) (.slice ad nd cd) (.int .i64 t1.idx) (.int .i64 t1.term) (.slice bc oc dc) (.slice bd ne dd) (.slice aa la ca) (.slice ab lb cb) Xa Xb u) (first | with_reducible exact d0 | with_reducible exact d1 | with_reducible exact d2 | with_reducible exact d3)
                (first
                  | (go_at_call 28; first
                    | (have mm := HE3; (with_reducible refine Calls.mono HE3.out ?_); rintro e w9 ⟨rfl, HP9⟩; have d3 := HSS.out w9 HP9.out)
                    | ((with_reducible refine Calls.mono HE1.out ?_); rintro e w8 ⟨rfl, HP8⟩; have d2 := HSS.out w8 HP8.out; have HE3 := hide (HE2.out w8 HP8.out))))
              refine NoPanic.normal ?_
              go_wp2_with fail
              go_meet
              exact ⟨rfl, HB7.out.trans (HP9.out.mono HB7.out.size), HA7.out.below HP9.out⟩
          case rest =>
            obtain ⟨rfl, HQ⟩ := hcut
            clear HBEQ HSS HE1 HE2 hXa hXb hr HK HKV HB7 HA7 HBb7 G1 G2 hP hw7 HV1 HV2 HO2
            obtain ⟨w8, hw8⟩ : ∃ x, x = wc := ⟨_, rfl⟩
            subst hw8
            obtain ⟨i, hi, hz0, hz1, hz2⟩ := info_parts Try.info5
            obtain ⟨bs, hbs⟩ : ∃ bs, Hid (encS' s1 = bs) := ⟨_, (rfl : _ = _)⟩
            have hbl : 0 < bs.length ∧ bs.length ≤ 900000 := by rw [← hbs.out]; exact ⟨encS_pos s1, HL1.out⟩
            rw [hbs.out] at HQ
            go_upto_region 13 with fail
            go_upto_region 14 with (at_builtin; refine wpList_append_sl _ rfl _ (.tmp 71) 24 rfl w8.heap.size i Try.underlying24 hi hz0 hz1 hz2 (.slice none 0 0) (.slice aa la ca) [] bs rfl (World.ownsRow_nil _ _ _ _) rfl HQ.out.2 (by simp; omega) (Nat.le_refl _) ?_)
            intro yv w9 hown hgrow hat9
            have hb9 : Below w8.heap.size w8 w9 := ⟨hgrow.os, hgrow.tape, hgrow.output, hgrow.size, fun k hk => hgrow.block k hk (by simp [Value.ownBlock])⟩
            have HB9 := hide (HQ.out.1.trans (hb9.mono HQ.out.1.size))
            have HO9 := hide (own_low hown HQ.out.1.size)
            obtain ⟨g, cap, rfl, -, hcp, hgl⟩ : ∃ g cap, yv = .slice (some ⟨g, 0, none⟩) bs.length cap ∧ bs.length ≤ cap ∧ cap ≤ maxLen ∧ g < w9.heap.size := by
              rcases Kp.own_shape hown with ⟨_, h0⟩ | ⟨g, cap, h, h2, h3, h4⟩
              · omega
              · exact ⟨g, cap, h, h2, h3, h4⟩
            have hgw := own_ge HO9.out g rfl
            clear hown hgrow hat9 hb9
            have HGW := hide hgw
            obtain ⟨N, hN⟩ : ∃ N, Hid (bs.length = N) := ⟨_, (rfl : _ = _)⟩
            rw [hN.out] at hbl HO9 ⊢
            have hN0 : (0 : Int) < (N : Int) := by omega
            have hN1 : (N : Int) ≤ 900000 := by omega
            go_upto_region 14 with fail
            go_cut [79] from 73 to 80 (fun v wc => v = .bool (decide (0 ≤ at_)) ∧ Hid (wc.ownsRow w.heap.size 5 1 (.slice (some ⟨g, 0, none⟩) N cap) N (cells8 bs) ∧ Below w.heap.size w wc))
            case first =>
              by_cases ha : 0 ≤ at_
              · have e := hide (decide_eq_true ha)
                go_wp2_with fail
                go_meet
                refine ⟨?_, HO9.out, HB9.out⟩
                first | rw [e.out] | exact ha | (simp; omega)
              · have ha' : ¬ (0 : Int) ≤ at_ := ha
                have e := hide (decide_eq_false ha)
                go_wp2_with fail
                go_meet
                refine ⟨?_, HO9.out, HB9.out⟩
                first | rw [e.out] | exact ha | (simp; omega)
            case rest =>
              obtain ⟨rfl, HO10⟩ := hcut
              clear HO9 HB9
              obtain ⟨w10, hw10⟩ : ∃ x, x = wc := ⟨_, rfl⟩
              subst hw10
              go_upto_if 79 with fail
              go_cut [] from 79 to 90 (fun wc => ∃ ys : List UInt8, ys.length = N ∧ Hid (wc.ownsRow w.heap.size 5 1 (.slice (some ⟨g, 0, none⟩) N cap) ys.length (cells8 ys) ∧ Below w.heap.size w wc))
              case first =>
                by_cases ha : 0 ≤ at_
                · obtain ⟨k, hk, hkN⟩ : ∃ k : Nat, at_.tmod N = (k : Int) ∧ k < N := by
                    rw [Int.tmod_eq_emod_of_nonneg ha]
                    have h1 := Int.emod_nonneg at_ (show (N : Int) ≠ 0 by omega)
                    have h2 := Int.emod_lt_of_pos at_ hN0
                    exact ⟨(at_ % N).toNat, by omega, by omega⟩
                  have hc := HO10.out.1.cellAt k (by omega)
                  rw [cells8_at bs k (by rw [hN.out]; exact hkN)] at hc
                  have hf := HO10.out.1.frozenAt k
                  have hkI : (k : Int) < (N : Int) := by omega
                  have hcI : (N : Int) ≤ 9223372036854775807 := by omega
                  have hk0 : 0 ≤ at_.tmod N := by omega
                  obtain ⟨y, hy⟩ := xor8 bs k x hx
                  have HY := hide hy
                  clear hy
                  go_wp2_with fail
                  go_meet
                  rw [HY.out]
                  have h9 := HO10.out.1
                  rw [← hN.out] at h9
                  refine ⟨bs.set k y, by rw [List.length_set]; exact hN.out, ?_, HO10.out.2.setCell (p := ⟨g, k, none⟩) HGW.out _⟩
                  have h10 := own_put h9 (by rw [hN.out]; exact hkN) y
                  rw [hN.out] at h10
                  exact h10
                · have ha' : ¬ (0 : Int) ≤ at_ := ha
                  go_wp2_with fail
                  go_meet
                  exact ⟨bs, hN.out, by rw [hN.out]; exact HO10.out.1, HO10.out.2⟩
              case rest =>
                obtain ⟨ys, hys, HO11⟩ := hcut
                have HYS := hide hys
                clear HO10 hys
                obtain ⟨w11, hw11⟩ : ∃ x, x = wc := ⟨_, rfl⟩
                subst hw11
                have HYL : Hid (ys.length ≤ 900000) := by show _ ≤ _; rw [HYS.out]; omega
                have HSY := hide (Sl.of_own HO11.out.1)
                have HB11 := hide HO11.out.2
                clear HO11 hbl
                cases hok : okB (rSnp (some ys)).1.2 (rSnp (some ys)).2
                · have HR := hide (readSnap_no HSY.out HYL.out hok)
                  clear hok
                  go_wp2_with fail
                  refine Calls.mono HR.out ?_
                  rintro e w12 ⟨rfl, HB12⟩
                  have HBe := hide ((HB11.out.trans (HB12.out.mono HB11.out.size)))
                  clear HR
                  go_wp2_with fail
                  go_ret
                  exact ⟨rfl, HBe.out.alloc HBe.out.size _⟩
                · have HR := hide (readSnap_ok HSY.out HYL.out hok)
                  have HZO := hide (rSnp_ok ys HYL.out hok)
                  have HZB := hide (rSnp_back ys hok)
                  clear hok
                  obtain ⟨z, hz⟩ : ∃ z, Hid ((rSnp (some ys)).1.1 = z) := ⟨_, (rfl : _ = _)⟩
                  rw [hz.out] at HR HZO HZB
                  go_wp2_with fail
                  refine Calls.mono HR.out ?_
                  rintro e w12 ⟨zc, zlc, zcc, zd, zld, zcd, rfl, HP12⟩
                  clear HR
                  obtain ⟨w13, hw13⟩ : ∃ x, Hid (x = w12.alloc (.cells #[.int .i64 z.idx, .int .i64 z.term, .slice zc zlc zcc, .slice zd zld zcd] 62)) := ⟨_, (rfl : _ = _)⟩
                  have HB13 : Hid (Below w11.heap.size w11 w13) := by rw [hw13.out]; exact HP12.out.2.alloc HP12.out.2.size _
                  have HK13 : Hid (w13.heap[w12.heap.size]? = some (.cells #[.int .i64 z.idx, .int .i64 z.term, .slice zc zlc zcc, .slice zd zld zcd] 62 (0, 0))) := by rw [hw13.out]; exact heap_alloc_new _ _
                  have HV13 : Hid (SnV w13 zc zlc zcc zd zld zcd z) := by rw [hw13.out]; exact HP12.out.1.below ((Below.refl _ _).alloc (Nat.le_refl _) _)
                  obtain ⟨Y, hY⟩ : ∃ X : ByteArray, Hid (⟨ys.toArray⟩ = X) := ⟨_, (rfl : _ = _)⟩
                  have HCY : Hid (∀ u, Below w13.heap.size w13 u → (convert 24 9 (.slice (some ⟨g, 0, none⟩) N cap)).run Try.prog u = .ok (.string Y) u) := fun u hu => conv_sl_any ((HSY.out.below HB13.out).below hu) hY.out
                  have HSN : Hid (Calls Try.prog 26 #[.agg #[.int .i64 z.idx, .int .i64 z.term, .slice zc zlc zcc, .slice zd zld zcd]] w13.drew fun e w14 => ∃ ao L c, e = .returned (.slice ao L c) ∧ Hid ((convert 24 9 (.slice ao L c)).run Try.prog w14 = .ok (.string Y) w14 ∧ Below w13.heap.size w13 w14)) := by
                    refine (snap_enc z (HV13.out.below (Below.refl _ _).drew) HZO.out.1 (by have := HZO.out.2.1; omega) (by have := HZO.out.2.2; omega)).mono ?_
                    rintro e w14 ⟨ao, L, c, rfl, hp⟩
                    have hown := hp.out.1
                    rw [HZB.out] at hown
                    exact ⟨ao, L, c, rfl, conv_sl_any (Sl.of_own hown) hY.out, (Below.refl _ _).drew.trans hp.out.2⟩
                  have HBe := hide (HB11.out.trans (HB13.out.mono HB11.out.size))
                  have hyy : (Y.toList == Y.toList) = true := by simp
                  clear HP12 HV13 HZO HZB HB13 HSY
                  go_upto_region 19 with fail
                  rw [← hw13.out]
                  obtain ⟨Q, hQ⟩ : ∃ P, Hid (w12.heap.size = P) := ⟨_, (rfl : _ = _)⟩
                  rw [hQ.out] at HK13 ⊢
                  have HS13 : Hid (∀ u, Below w13.heap.size w13 u → S4 Q (.int .i64 z.idx) (.int .i64 z.term) (.slice zc zlc zcc) (.slice zd zld zcd) (.slice (some ⟨g, 0, none⟩) N cap) Y u) := fun u hu => by
                    obtain ⟨x0, x1, x2, x3⟩ := cells_Snp ((hu.block _ (lt_of_block HK13.out)).trans HK13.out)
                    exact ⟨x0, x1, x2, x3, HCY.out u hu⟩
                  have d0 := HS13.out w13 (Below.refl _ _)
                  have d1 := HS13.out w13.drew (Below.refl _ _).drew
                  clear HCY HK13
                  refine wp_region_noPanic ?_
                  go_region_held (fun u => S4 Q (.int .i64 z.idx) (.int .i64 z.term) (.slice zc zlc zcc) (.slice zd zld zcd) (.slice (some ⟨g, 0, none⟩) N cap) Y u) (first | with_reducible exact d0 | with_reducible exact d1 | with_reducible exact d2)
                    (first
                      | (go_at_call 26; (with_reducible refine Calls.mono HSN.out ?_); rintro e w14 ⟨ao, L, c, rfl, HP14⟩; have hcv := HP14.out.1; have d2 := HS13.out w14 HP14.out.2))
                  all_goals refine NoPanic.normal ?_
                  all_goals go_wp2_with fail
                  all_goals go_ret
                  all_goals exact ⟨rfl, HBe.out.trans (HP14.out.2.mono HBe.out.size)⟩

end Go.Proofs.Ytgknpbgepgmmmaa.Cm
namespace Go.Proofs.Ytgknpbgepgmmmaa.Cm
open Go.ChangeShapes Go.WideShapes Go.ChangeAt Go.RowKit Go.Joins
open Bn Kp

/-- The bytes of a slice that is read. -/
theorem told8 {H : Type} {enc : TypeId × Value → H} {w : World} {fuel : Nat} {v : Value} {y : DataW H × List MemPlace} (h : DataW.trod enc Try.prog w 0 (fun _ => true) true fuel 24 [v] = some y) : ∃ ao l c bs, v = .slice ao l c ∧ Sl w (.slice ao l c) bs := by
  rcases open_ints Try.underlying24 Try.underlying5 (by kernel_rfl) h with ⟨hcs, _⟩ | ⟨x, l, c, zs, hcs, _, hl, hm, hz, _, hcell, hwz⟩
  · simp at hcs
    exact ⟨_, _, _, [], hcs, Sl.nil w⟩
  · simp at hcs
    subst hcs
    simp at hz
    have hlen : ((zs.take l).map fun n => UInt8.ofNat n.toNat).length = l := by simp; omega
    refine ⟨_, _, _, (zs.take l).map fun n => UInt8.ofNat n.toNat, rfl, some x, c, by rw [hlen], by omega, hm, fun e => by simp at e, fun hp => ?_⟩
    rw [hlen] at hp ⊢
    obtain ⟨b, off, rfl, hc⟩ := ints_at hcell (by omega)
    refine ⟨b, off, rfl, fun j hj => ?_⟩
    rw [hc j (by omega)]
    have hjz : j < zs.length := by omega
    have hb := bounds_u8 (hwz _ (List.getElem_mem hjz))
    have e1 : zs.getD j 0 = zs[j] := by simp [List.getD, List.getElem?_eq_getElem hjz]
    have e2 : ((zs.take l).map fun n => UInt8.ofNat n.toNat).getD j 0 = UInt8.ofNat (zs[j]).toNat := by
      simp [List.getD, hj, List.getElem?_eq_getElem hjz]
    unfold at8
    rw [e1, e2, toNat_lo (by omega)]
    congr 2
    omega
/-- The numbers of a slice that is read. -/
theorem toldI {H : Type} {enc : TypeId × Value → H} {w : World} {fuel : Nat} {v : Value} {y : DataW H × List MemPlace} (h : DataW.trod enc Try.prog w 0 (fun _ => true) true fuel 52 [v] = some y) : ∃ ao l c ns, v = .slice ao l c ∧ IsR w (.slice ao l c) (cI ns) ∧ (∀ n ∈ ns, I64 n) ∧ ns.length ≤ 9223372036854775807 := by
  rcases open_ints Try.underlying52 Try.underlying3 (by kernel_rfl) h with ⟨hcs, _⟩ | ⟨x, l, c, zs, hcs, _, hl, hm, hz, _, hcell, hwz⟩
  · simp at hcs
    exact ⟨_, _, _, [], hcs, ⟨none, 0, rfl, Nat.le_refl _, by simp [maxLen], fun h => by simp [cI] at h⟩, fun n h => by simp at h, by simp⟩
  · simp at hcs
    subst hcs
    simp at hz
    have hlen : (cI (zs.take l)).length = l := by rw [cI_len]; simp; omega
    have hm' : c ≤ 9223372036854775807 := hm
    refine ⟨_, _, _, zs.take l, rfl, ⟨some x, c, by rw [hlen], by omega, hm, fun hp => ?_⟩, fun n hn => bounds_i64 (hwz n (List.mem_of_mem_take hn)), by simp only [List.length_take]; omega⟩
    rw [hlen] at hp
    obtain ⟨b, off, rfl, hc⟩ := ints_at hcell (by omega)
    refine ⟨b, off, rfl, fun j u hj => ?_⟩
    have hjl : j < l := by
      have := (List.getElem?_eq_some_iff.1 hj).1
      rw [hlen] at this
      exact this
    have hjz : j < zs.length := by omega
    rw [hc j (by omega)]
    rw [← hj]
    simp [cI, hjl, List.getD, List.getElem?_eq_getElem hjz]
set_option maxRecDepth 100000 in
theorem told_snap {H : Type} {enc : TypeId × Value → H} {w : World} {r : Reach} {b0 : Nat} {v : Value} {d : DataW H} {p : List MemPlace} (hv : Value.okWide Try.prog w r b0 62 v) (h : DataW.Trod enc Try.prog w 0 (fun _ => true) true 62 v d p) :
    ∃ (s : Snp) (ac : Option Addr) (lc cc : Nat) (ad : Option Addr) (ld cd : Nat), v = .agg #[.int .i64 s.idx, .int .i64 s.term, .slice ac lc cc, .slice ad ld cd] ∧ SnV w ac lc cc ad ld cd s ∧ s.ok := by
  obtain ⟨v0, v1, v2, v3, y0, y1, y2, y3, n, rfl, _, _, h0, h1, h2, h3⟩ := open_agg4 Try.underlying62 (by kernel_rfl) (by kernel_rfl) hv h
  obtain ⟨z0, e0, _, w0⟩ := DataW.trod_int Try.underlying2 h0
  obtain ⟨z1, e1, _, w1⟩ := DataW.trod_int Try.underlying2 h1
  simp at e0 e1
  subst e0 e1
  obtain ⟨ac, lc, cc, ns, rfl, hI, hO, hL⟩ := toldI h2
  obtain ⟨ad, ld, cd, bs, rfl, hS⟩ := told8 h3
  refine ⟨⟨z0, z1, ns, bs⟩, ac, lc, cc, ad, ld, cd, rfl, ⟨hI, hS⟩, bounds_i64 w0, bounds_i64 w1, hO, hL, ?_⟩
  have h1 := hS.len
  obtain ⟨_, _, e, g1, g2, _⟩ := hS
  have g2' : _ ≤ 9223372036854775807 := g2
  show bs.length ≤ _
  omega

end Go.Proofs.Ytgknpbgepgmmmaa.Cm

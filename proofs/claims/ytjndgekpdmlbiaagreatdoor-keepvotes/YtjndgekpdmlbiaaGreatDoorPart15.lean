/- What Text answers is new memory; the walk of unseal. The walk of a log's load. What is read off bytes was written so: plain mathematics. The walk of a log's load. The walks of HasPrefix and removeStrays. -/
import Derived.Test.YtjndgekpdmlbiaaGreatDoorPart14
import Derived.Test.YtjndgekpdmlbiaaGreatDoorPart10
namespace Go.Proofs.YtjndgekpdmlbiaaGreatDoor.Bn
open Go.RowKit

/-- A slice that was made behind w. -/
def New (w w' : World) (v : Value) : Prop := ∀ a n c, v = .slice (some a) n c → w.heap.size ≤ a.block ∧ a.block < w'.heap.size
theorem New.nil (w w' : World) : New w w' (.slice none 0 0) := fun a n c e => by simp at e
theorem New.of_own {w w1 w2 : World} {v : Value} {n : Nat} {xs : List Value} (h : w2.ownsRow w1.heap.size 5 1 v n xs) (hs : w.heap.size ≤ w1.heap.size) : New w w2 v := fun a m c e => by
  subst e
  rcases h.2 with ⟨e, _⟩ | ⟨g, cap, cur, e, hb, hg, _⟩
  · simp at e
  · simp at e
    obtain ⟨rfl, _⟩ := e
    exact ⟨Nat.le_trans hs hb, (Array.getElem?_eq_some_iff.1 hg).1⟩
theorem New.up {w w2 w3 : World} {v : Value} (h : New w w2 v) (hs : w2.heap.size ≤ w3.heap.size) : New w w3 v := fun a m c e => ⟨(h a m c e).1, Nat.lt_of_lt_of_le (h a m c e).2 hs⟩

set_option maxHeartbeats 400000 in
theorem rtext2_none (B : Nat) (st : Option (List UInt8)) (n : Int) (w : World) (h : Rd w 164 B st) (hn : rNum st = (n, none)) :
    Calls Tryz.prog 105 #[.pointer (some ⟨B, 0, none⟩)] w fun e w' => ∃ v, e = .returned v ∧ Sl w' v [] ∧ New w w' v ∧ Rd w' 164 B none ∧ w.grownBy w' (some B) := by
  have HN : Hid (rNum st = (n, none)) := hn
  clear hn
  go_enter Tryz.func105, Tryz.ntmps105
  go_wp2_with (first
    | (go_at_call 104; refine (rnum_is B st none n _ h HN.out).mono ?_; rintro e w1 ⟨rfl, hr1, hg1⟩)
    | (go_at_call 84; refine (ok_any B none _ hr1).mono ?_; rintro e w' ⟨rfl, rfl⟩))
  go_ret
  exact ⟨_, rfl, Sl.nil _, New.nil _ _, hr1, hg1⟩

set_option maxHeartbeats 400000 in
theorem rtext2_bad (B : Nat) (st : Option (List UInt8)) (bs : List UInt8) (n : Int) (w : World) (h : Rd w 164 B st) (hn : rNum st = (n, some bs)) (hb : ¬ (0 ≤ n ∧ n ≤ bs.length)) :
    Calls Tryz.prog 105 #[.pointer (some ⟨B, 0, none⟩)] w fun e w' => ∃ v, e = .returned v ∧ Sl w' v [] ∧ New w w' v ∧ Rd w' 164 B none ∧ w.grownBy w' (some B) := by
  have HN : Hid (rNum st = (n, some bs)) := hn
  clear hn
  by_cases h0 : n < 0
  · clear hb
    go_enter Tryz.func105, Tryz.ntmps105
    go_wp2_with (first
      | (go_at_call 104; refine (rnum_is B st (some bs) n _ h HN.out).mono ?_; rintro e w1 ⟨rfl, hr1, hg1⟩)
      | (go_at_call 84; refine (ok_any B (some bs) _ hr1).mono ?_; rintro e w' ⟨rfl, rfl⟩)
      | (go_at_call 108; refine (fail_any B (some bs) _ hr1).mono ?_; rintro e w2 ⟨rfl, hr2, hg2⟩))
    go_ret
    exact ⟨_, rfl, Sl.nil _, New.nil _ _, hr2, hg1.trans hg2⟩
  · have h1 : (bs.length : Int) < n := by omega
    clear hb
    go_enter Tryz.func105, Tryz.ntmps105
    go_wp2_with (first
      | (go_at_call 104; refine (rnum_is B st (some bs) n _ h HN.out).mono ?_; rintro e w1 ⟨rfl, hr1, hg1⟩)
      | (go_at_call 84; refine (ok_any B (some bs) _ hr1).mono ?_; rintro e w' ⟨rfl, rfl⟩; have H1 := hr1; obtain ⟨v, hB, hv, _, _⟩ := hr1; obtain ⟨ao, cap, rfl, _, _⟩ := hv.shape; obtain ⟨c0, _, _, _⟩ := two_cells hB; clear hB hv)
      | (go_at_call 108; refine (fail_any B (some bs) _ H1).mono ?_; rintro e w2 ⟨rfl, hr2, hg2⟩))
    go_ret
    exact ⟨_, rfl, Sl.nil _, New.nil _ _, hr2, hg1.trans hg2⟩

set_option maxHeartbeats 400000 in
theorem rtext2_ok (B : Nat) (st : Option (List UInt8)) (bs : List UInt8) (m : Nat) (w : World) (h : Rd w 164 B st) (hn : rNum st = ((m : Int), some bs)) (hb : m ≤ bs.length) :
    Calls Tryz.prog 105 #[.pointer (some ⟨B, 0, none⟩)] w fun e w' => ∃ v, e = .returned v ∧ Sl w' v (bs.take m) ∧ New w w' v ∧ Rd w' 164 B (some (bs.drop m)) ∧ w.grownBy w' (some B) := by
  have HN : Hid (rNum st = ((m : Int), some bs)) := hn
  clear hn
  have hb' : (m : Int) ≤ bs.length := by omega
  go_enter Tryz.func105, Tryz.ntmps105
  go_wp2_with fail
  refine (rnum_is B st (some bs) m _ h HN.out).mono ?_
  rintro e w1 ⟨rfl, hr1, hg1⟩
  have H1 := hr1
  obtain ⟨v, hB, hv, hp, hlim⟩ := hr1
  have hlim' : bs.length ≤ 140737488355328 := hlim
  rcases hp with rfl | ⟨g, off, n', cap, rfl⟩
  · have e0 := hv.len
    simp only [Option.getD_some] at e0
    have e1 : bs = [] := List.eq_nil_of_length_eq_zero e0.symm
    subst e1
    have e2 : m = 0 := by simpa using hb
    subst e2
    obtain ⟨c0, c1, f0, f1⟩ := two_cells hB
    have HP : Hid (_) := Rd.put hB hv (Sl.nil _) (Or.inl rfl) (by simp)
    clear hv hlim hlim' hB e0 hb hb'
    go_wp2_with (first
      | (go_at_call 84; refine (ok_any B (some []) _ H1).mono ?_; rintro e w' ⟨rfl, rfl⟩)
      | (go_at_call 58; refine (clone_nil _).mono ?_; rintro e w2 ⟨rfl, rfl⟩))
    go_ret
    exact ⟨_, rfl, Sl.nil _, New.nil _ _, HP.out.1, hg1.trans HP.out.2⟩
  · have e0 := hv.len
    simp only [Option.getD_some] at e0
    subst e0
    have hcap : bs.length ≤ cap := by obtain ⟨_, _, e, h1, _⟩ := hv; simp only [Value.slice.injEq] at e; rw [e.2.2]; exact h1
    obtain ⟨c0, c1, f0, f1⟩ := two_cells hB
    have hBl := lt_of_block hB
    have HV : Hid (Sl w1 (.slice (some ⟨g, off, none⟩) bs.length cap) bs) := hv
    have HB : Hid (_) := hB
    clear hv hlim hB
    go_wp2_with (first
      | (go_at_call 84; refine (ok_any B (some bs) _ H1).mono ?_; rintro e w' ⟨rfl, rfl⟩)
      | (go_at_call 58; refine (clone_any _ (bs.take m) _ (HV.out.take m hb) (by rw [List.length_take]; omega)).mono ?_; rintro e w2 ⟨v', rfl, hown, hb2⟩; have hnw : Hid (New w w2 v') := New.of_own hown hg1.size; have c0' := (hb2.cell (p := ⟨B, 0, none⟩) hBl).trans c0; have f0' := (hb2.frozen (p := ⟨B, 0, none⟩) hBl).trans f0; obtain ⟨ao', cap', rfl, _, _⟩ := (Sl.of_own hown).shape))
    all_goals go_ret
    all_goals
      have hB2 := (hb2.block B hBl).trans HB.out
      have hv2 := HV.out.below hb2
      have HP := Rd.put hB2 hv2 (sl_rest hv2 m hb).1 (sl_rest hv2 m hb).2 (by rw [List.length_drop]; omega)
      have hlm : (bs.take m).length = m := by rw [List.length_take]; omega
      have HS := (Sl.of_own hown).rd (st := some bs) ⟨_, hB2, hv2, Or.inr ⟨_, _, _, _, rfl⟩, hlim'⟩ HP.2
    · rw [if_pos (by assumption), show cap - m = 0 by omega] at HP HS
      rw [hlm] at HS
      have hnw2 := hnw.out.up HP.2.size
      rw [hlm] at hnw2
      exact ⟨_, rfl, HS, hnw2, HP.1, (grown_below hg1 hb2).trans HP.2⟩
    · rw [if_neg (by assumption)] at HP HS
      rw [hlm] at HS
      have hnw2 := hnw.out.up HP.2.size
      rw [hlm] at hnw2
      exact ⟨_, rfl, HS, hnw2, HP.1, (grown_below hg1 hb2).trans HP.2⟩

theorem rtext2_any (B : Nat) (st : Option (List UInt8)) (w : World) (h : Rd w 164 B st) :
    Calls Tryz.prog 105 #[.pointer (some ⟨B, 0, none⟩)] w fun e w' => ∃ v, e = .returned v ∧ Sl w' v (rText st).1 ∧ New w w' v ∧ Rd w' 164 B (rText st).2 ∧ w.grownBy w' (some B) := by
  unfold rText
  cases hn : rNum st with
  | mk n st1 =>
    cases st1 with
    | none => exact rtext2_none B st n w h hn
    | some bs =>
      simp only [rCut]
      by_cases hb : 0 ≤ n ∧ n ≤ bs.length
      · rw [if_pos hb]
        obtain ⟨m, rfl⟩ := Int.eq_ofNat_of_zero_le hb.1
        exact rtext2_ok B st bs m w h hn (by omega)
      · rw [if_neg hb]
        exact rtext2_bad B st bs n w h hn hb

end Go.Proofs.YtjndgekpdmlbiaaGreatDoor.Bn

namespace Go.Proofs.YtjndgekpdmlbiaaGreatDoor.Wl
open Go.RowKit Dk

set_option maxHeartbeats 2000000 in
set_option maxRecDepth 20000 in
theorem unseal_any (v : Value) (body : List UInt8) (w : World) (hS : Sl w v body) (hl : body.length ≤ 1000000) :
    Calls Tryz.prog 74 #[v] w fun e w' => ∃ (n : Int) (ao : Option Addr) (L cap : Nat) (ok : Bool), e = .returned (.tuple #[.int .i64 n, .slice ao L cap, .bool ok]) ∧ Hid (Below w.heap.size w w' ∧ (match unsealL body with | none => ok = false | some (m, data) => ok = true ∧ n = m ∧ Sl w' (.slice ao L cap) data ∧ Bn.New w w' (.slice ao L cap))) := by
  obtain ⟨ao0, cap0, rfl, _, _⟩ := hS.shape
  have H1 : Hid (Calls Tryz.prog 82 #[.slice ao0 body.length cap0] w fun e w1 => ∃ B, e = .returned (.pointer (some ⟨B, 0, none⟩)) ∧ Hid (
      Calls Tryz.prog 104 #[.pointer (some ⟨B, 0, none⟩)] w1 fun e w2 => e = .returned (.int .i64 (Bn.rNum (some body)).1) ∧ Hid (
      Calls Tryz.prog 105 #[.pointer (some ⟨B, 0, none⟩)] w2 fun e w3 => ∃ ao cap, e = .returned (.slice ao (Bn.rText (Bn.rNum (some body)).2).1.length cap) ∧ Hid (Sl w3 (.slice ao (Bn.rText (Bn.rNum (some body)).2).1.length cap) (Bn.rText (Bn.rNum (some body)).2).1 ∧ Bn.New w w3 (.slice ao (Bn.rText (Bn.rNum (some body)).2).1.length cap) ∧ Below w.heap.size w w3) ∧
        Hid (Calls Tryz.prog 84 #[.pointer (some ⟨B, 0, none⟩)] w3 fun e w' => e = .returned (.bool (Bn.rText (Bn.rNum (some body)).2).2.isSome) ∧ w' = w3) ∧ Hid (Calls Tryz.prog 106 #[.pointer (some ⟨B, 0, none⟩)] w3 fun e w' => e = .returned (.int .i64 ((Bn.rText (Bn.rNum (some body)).2).2.getD []).length) ∧ w' = w3)))) := by
    refine (Bn.read_any _ body w hS (by omega)).mono ?_
    rintro e w1 ⟨B, rfl, hB, hR1, hb1⟩
    refine ⟨B, rfl, (Bn.rnum_any B (some body) w1 hR1).mono ?_⟩
    rintro e w2 ⟨rfl, hR2, hg2⟩
    have hb2 : Below w.heap.size w w2 := hb1.grown hg2 hb1.size (fun k hk => by simp at hk; omega)
    refine ⟨rfl, (Bn.rtext2_any B _ w2 hR2).mono ?_⟩
    rintro e w3 ⟨v3, rfl, hS3, hN3, hR3, hg3⟩
    have hb3 : Below w.heap.size w w3 := hb2.grown hg3 hb2.size (fun k hk => by simp at hk; omega)
    obtain ⟨ao, cap, rfl, _, _⟩ := Bn.Sl.shape hS3
    exact ⟨ao, cap, rfl, ⟨hS3, fun a n c e => ⟨Nat.le_trans hb2.size (hN3 a n c e).1, (hN3 a n c e).2⟩, hb3⟩, Bn.ok_any B _ w3 hR3, Bn.left_any B _ w3 hR3⟩
  unfold unsealL
  generalize (Bn.rNum (some body)).1 = n at *
  generalize (Bn.rText (Bn.rNum (some body)).2).1 = data at *
  generalize (Bn.rText (Bn.rNum (some body)).2).2 = st at *
  clear hS
  cases st with
  | none =>
    simp only [Option.isSome_none, Option.getD_none] at H1
    go_enter Tryz.func74, Tryz.ntmps74
    go_wp2_with (first
      | (go_at_call 82; refine Calls.mono H1.out ?_; rintro e w1 ⟨B, rfl, H2⟩)
      | (go_at_call 104; refine Calls.mono H2.out ?_; rintro e w2 ⟨rfl, H3⟩)
      | (go_at_call 105; refine Calls.mono H3.out ?_; rintro e w3 ⟨ao, cap, rfl, HX, H4, H5⟩)
      | (go_at_call 84; refine Calls.mono H4.out ?_; rintro e w' ⟨rfl, hw⟩; have hw' := hw.symm; subst hw'))
    refine bodyPost_ret (v := .tuple #[.int .i64 0, .slice none 0 0, .bool false]) (by simp [results, Tryz.results74, go_sem]) rfl ⟨0, none, 0, 0, false, rfl, HX.out.2.2, ?_⟩
    rfl
  | some rest =>
    simp only [Option.isSome_some, Option.getD_some] at H1 ⊢
    by_cases hr : rest.length = 0
    · by_cases hd : data.length ≤ 32768
      · rw [if_pos ⟨hr, hd⟩]
        have hr' : ¬ (0 : Int) < (rest.length : Int) := by omega
        have hd' : ¬ (32768 : Int) < (data.length : Int) := by omega
        clear hr hd
        generalize rest.length = rl at *
        go_enter Tryz.func74, Tryz.ntmps74
        go_wp2_with (first
          | (go_at_call 82; refine Calls.mono H1.out ?_; rintro e w1 ⟨B, rfl, H2⟩)
          | (go_at_call 104; refine Calls.mono H2.out ?_; rintro e w2 ⟨rfl, H3⟩)
          | (go_at_call 105; refine Calls.mono H3.out ?_; rintro e w3 ⟨ao, cap, rfl, HX, H4, H5⟩)
          | (go_at_call 84; refine Calls.mono H4.out ?_; rintro e w' ⟨rfl, hw⟩; have hw' := hw.symm; subst hw')
          | (go_at_call 106; refine Calls.mono H5.out ?_; rintro e w' ⟨rfl, hw⟩; have hw' := hw.symm; subst hw'))
        refine bodyPost_ret (v := .tuple #[.int .i64 n, .slice ao data.length cap, .bool true]) (by simp [results, Tryz.results74, go_sem]) rfl ⟨n, ao, data.length, cap, true, rfl, HX.out.2.2, ?_⟩
        exact ⟨rfl, rfl, HX.out.1, HX.out.2.1⟩
      · rw [if_neg (fun h => hd h.2)]
        have hr' : ¬ (0 : Int) < (rest.length : Int) := by omega
        have hd' : (32768 : Int) < (data.length : Int) := by omega
        clear hr hd
        generalize rest.length = rl at *
        go_enter Tryz.func74, Tryz.ntmps74
        go_wp2_with (first
          | (go_at_call 82; refine Calls.mono H1.out ?_; rintro e w1 ⟨B, rfl, H2⟩)
          | (go_at_call 104; refine Calls.mono H2.out ?_; rintro e w2 ⟨rfl, H3⟩)
          | (go_at_call 105; refine Calls.mono H3.out ?_; rintro e w3 ⟨ao, cap, rfl, HX, H4, H5⟩)
          | (go_at_call 84; refine Calls.mono H4.out ?_; rintro e w' ⟨rfl, hw⟩; have hw' := hw.symm; subst hw')
          | (go_at_call 106; refine Calls.mono H5.out ?_; rintro e w' ⟨rfl, hw⟩; have hw' := hw.symm; subst hw'))
        refine bodyPost_ret (v := .tuple #[.int .i64 0, .slice none 0 0, .bool false]) (by simp [results, Tryz.results74, go_sem]) rfl ⟨0, none, 0, 0, false, rfl, HX.out.2.2, ?_⟩
        rfl
    · rw [if_neg (fun h => hr h.1)]
      have hr' : (0 : Int) < (rest.length : Int) := by omega
      clear hr
      generalize rest.length = rl at *
      go_enter Tryz.func74, Tryz.ntmps74
      go_wp2_with (first
        | (go_at_call 82; refine Calls.mono H1.out ?_; rintro e w1 ⟨B, rfl, H2⟩)
        | (go_at_call 104; refine Calls.mono H2.out ?_; rintro e w2 ⟨rfl, H3⟩)
        | (go_at_call 105; refine Calls.mono H3.out ?_; rintro e w3 ⟨ao, cap, rfl, HX, H4, H5⟩)
        | (go_at_call 84; refine Calls.mono H4.out ?_; rintro e w' ⟨rfl, hw⟩; have hw' := hw.symm; subst hw')
        | (go_at_call 106; refine Calls.mono H5.out ?_; rintro e w' ⟨rfl, hw⟩; have hw' := hw.symm; subst hw'))
      refine bodyPost_ret (v := .tuple #[.int .i64 0, .slice none 0 0, .bool false]) (by simp [results, Tryz.results74, go_sem]) rfl ⟨0, none, 0, 0, false, rfl, HX.out.2.2, ?_⟩
      rfl
end Go.Proofs.YtjndgekpdmlbiaaGreatDoor.Wl
namespace Go.Proofs.YtjndgekpdmlbiaaGreatDoor.Wl
open Go.RowKit Dk

def nmW : ByteArray := ⟨#[119]⟩
/-- May a number follow? -/
def mayL (first : Int) (ds : List (List UInt8)) (n : Int) : Bool := decide (1 ≤ n) && (decide (ds.length = 0) || decide (n - 1 = (if ds.length = 0 then 0 else first + ds.length - 1)))
theorem mayB_L (first : Int) (rs : List Re) (n : Int) : mayB first rs n = mayL first (rs.map Re.data) n := by simp [mayB, mayL, lastN]
/-- The records that are read off bodies, so far as they are in order. -/
def loadR : List (List UInt8) → Int → List (List UInt8) → Int × List (List UInt8)
  | [], f, ds => (f, ds)
  | body :: r, f, ds => match unsealL body with
    | none => (f, ds)
    | some (n, d) => if mayL f ds n = true then loadR r (if ds.length = 0 then n else f) (ds ++ [d]) else (f, ds)

/-- A log whose records are these, made behind wS, but for its own block. -/
def LD (wS w : World) (p pd : Nat) (first : Int) (ds : List (List UInt8)) : Prop := ∃ vr rs G, Lg w p pd first vr rs G ∧ rs.map Re.data = ds ∧ (∀ k, G k → wS.heap.size ≤ k) ∧ Fr (fun k => k = p) wS w
theorem LD.below {wS w w' : World} {p pd : Nat} {first : Int} {ds : List (List UInt8)} (h : LD wS w p pd first ds) (hb : Below w.heap.size w w') : LD wS w' p pd first ds := by
  obtain ⟨vr, rs, G, h1, h2, h3, h4⟩ := h
  exact ⟨vr, rs, G, h1.below hb, h2, h3, h4.trans (G := fun _ => False) (Fr.of_below hb) (fun _ _ => False.elim)⟩
theorem LD.fr {wS w : World} {p pd : Nat} {first : Int} {ds : List (List UInt8)} (h : LD wS w p pd first ds) : Fr (fun k => k = p) wS w := by
  obtain ⟨vr, rs, G, h1, h2, h3, h4⟩ := h
  exact h4
theorem LD.may {wS w : World} {p pd : Nat} {first : Int} {ds : List (List UInt8)} (h : LD wS w p pd first ds) (n : Int) (hn : n ≤ 9223372036854775807) :
    Calls Tryz.prog 75 #[.pointer (some ⟨p, 0, none⟩), .int .i64 n] w fun e w' => e = .returned (.bool (mayL first ds n)) ∧ ∃ m, w' = w.drewN m := by
  obtain ⟨vr, rs, G, h1, rfl, h3, h4⟩ := h
  rw [← mayB_L]
  exact may_any p pd first vr rs G n w h1 hn
theorem LD.add {wS w wr : World} {p pd : Nat} {first : Int} {ds : List (List UInt8)} (h : LD wS w p pd first ds) (hp : p < wS.heap.size) (hwr : LD wS wr p pd first ds) (hb : Below wr.heap.size wr w) (n : Int) (dv : Value) (data : List UInt8) (size : Nat) (hd : Sl w dv data) (hN : Bn.New wr w dv) (hm : mayL first ds n = true) (hn : n ≤ 9223372036854775807)
    (hsz : size = (recB n data).length) (hl : ds.length ≤ 100000) (hlen : (fileB first ds).length + size ≤ 1000000000) :
    Calls Tryz.prog 76 #[.pointer (some ⟨p, 0, none⟩), .int .i64 n, dv, .int .i64 (size : Int)] w fun e w' => e = .returned (.tuple #[]) ∧ Hid (LD wS w' p pd (if ds.length = 0 then n else first) (ds ++ [data])) := by
  obtain ⟨vr, rs, G, h1, rfl, h3, h4⟩ := hwr
  have h1' := h1.below hb
  have hs4 := h4.size
  have hsb := hb.size
  obtain ⟨m1, m2⟩ : 1 ≤ n ∧ (rs.length = 0 ∨ n - 1 = (if rs.length = 0 then 0 else first + rs.length - 1)) := by simpa [mayL] using hm
  have hsize : sizeK first rs rs.length = (fileB first (rs.map Re.data)).length := by
    unfold sizeK
    rw [List.take_of_length_le (by simp)]
  rw [List.length_map] at hl
  refine (add_any p pd first vr rs G (fun k => ∃ a m c, dv = .slice (some a) m c ∧ k = a.block) n dv data size w h1' ⟨hd, fun a m c e hn => hn ⟨a, m, c, e, rfl⟩⟩ ?_ hsz ⟨m1, hn⟩ ?_ (by omega) (by rw [hsize]; exact hlen)).mono ?_
  · rintro k ⟨a, m, c, e, rfl⟩
    have hk := hN a m c e
    refine ⟨fun hG => ?_, ?_, hk.2⟩
    · have := h1.lt _ hG
      omega
    · omega
  · intro hne
    have hz : rs.length ≠ 0 := fun e => hne (List.eq_nil_of_length_eq_zero e)
    rcases m2 with m2 | m2
    · exact absurd m2 hz
    · rw [if_neg hz] at m2
      omega
  · rintro e w' ⟨rfl, ⟨vr', fin, hL⟩, hf⟩
    refine ⟨rfl, vr', rs ++ [⟨dv, data, fin⟩], ext (fun k => G k ∨ ∃ a m c, dv = .slice (some a) m c ∧ k = a.block) w w', ?_, by simp, fun k hk => ?_, ?_⟩
    · rw [List.length_map]
      exact hL
    · rcases hk with (hk | ⟨a, m, c, e, rfl⟩) | hk
      · exact h3 k hk
      · have := (hN a m c e).1
        omega
      · omega
    · exact (h4.trans (G := fun _ => False) (Fr.of_below hb) (fun _ _ => False.elim)).trans hf (fun k hk hG => by
        rcases hG with hG | hG
        · have := h3 k hG
          omega
        · exact hG)
theorem LD.size {wS w : World} {p pd : Nat} {first : Int} {ds : List (List UInt8)} (h : LD wS w p pd first ds) (hl : ds.length ≤ 100000) :
    ∃ ao cap, w.cell? ⟨p, 2, none⟩ = some (.slice ao ds.length cap) ∧ w.cell? ⟨p, 0, none⟩ = some (.pointer (some ⟨pd, 0, none⟩)) ∧ Hid (Calls Tryz.prog 77 #[.pointer (some ⟨p, 0, none⟩), .int .i64 (ds.length : Int)] w fun e w' => e = .returned (.int .i64 (fileB first ds).length) ∧ w' = w) := by
  obtain ⟨vr, rs, G, h1, rfl, h3, h4⟩ := h
  obtain ⟨ao, cap, rfl, _⟩ := h1.shape
  rw [List.length_map] at hl ⊢
  refine ⟨ao, cap, h1.cells.2.2.1, h1.cells.1, ?_⟩
  have h2 := endOf_any p pd first _ rs G rs.length w h1 (Nat.le_refl _) (by omega)
  unfold sizeK at h2
  rw [List.take_of_length_le (by simp)] at h2
  exact h2
end Go.Proofs.YtjndgekpdmlbiaaGreatDoor.Wl
namespace Go.Proofs.YtjndgekpdmlbiaaGreatDoor.Wl
open Bn

theorem encF_back : ∀ (f : Nat) (bs : List UInt8) (k : Nat), len7 (f + 1) bs = k + 1 → (0 < k → at8 bs k ≠ 0) → encF f (acc (bs.take (k + 1))) = bs.take (k + 1)
  | f, [], k, h, _ => by simp [len7] at h
  | f, b :: r, k, h, hz => by
    rw [len7] at h
    have hb256 := b.toNat_lt
    by_cases hb : 128 ≤ b.toNat
    · rw [if_pos hb] at h
      by_cases h0 : len7 f r = 0
      · rw [if_pos h0] at h
        omega
      · rw [if_neg h0] at h
        obtain ⟨k', rfl⟩ : ∃ k', k = k' + 1 := ⟨k - 1, by omega⟩
        obtain ⟨f', rfl⟩ : ∃ f', f = f' + 1 := by
          cases f with
          | zero => simp [len7] at h0
          | succ f' => exact ⟨f', rfl⟩
        have hl : len7 (f' + 1) r = k' + 1 := by omega
        have hz' : at8 r k' ≠ 0 := by
          have := hz (by omega)
          rwa [at8_cons_succ] at this
        have ih := encF_back f' r k' hl (fun _ => hz')
        rw [List.take_succ_cons]
        obtain ⟨a, ha⟩ : ∃ a, a = acc (r.take (k' + 1)) := ⟨_, rfl⟩
        rw [acc, ← ha]
        rw [← ha] at ih
        have ha1 : 1 ≤ a := by
          cases a with
          | zero =>
            exfalso
            rw [encF_last f' 0 (by omega)] at ih
            have hlen := congrArg List.length ih
            have hle := (len7_le (f' + 1) r).2
            simp at hlen
            have hk0 : k' = 0 := by omega
            subst hk0
            apply hz'
            cases r with
            | nil => simp [len7] at hl
            | cons x r =>
              simp at ih
              simp [at8, ← ih]
          | succ a => omega
        rw [encF_more f' _ (by omega), show (b.toNat % 128 + 128 * a) / 128 = a by omega, show (b.toNat % 128 + 128 * a) % 128 + 128 = b.toNat by omega, ih]
        simp
    · rw [if_neg hb] at h
      have hk : k = 0 := by omega
      subst hk
      simp only [Nat.zero_add, List.take_succ_cons, List.take_zero, acc]
      rw [encF_last f _ (by omega), show b.toNat % 128 + 128 * 0 = b.toNat by omega]
      simp

theorem zig_zag (u : Nat) : zig (zag u) = u := by
  unfold zag
  split
  · unfold zig
    rw [if_pos (by omega)]
    omega
  · unfold zig
    rw [if_neg (by omega)]
    omega
theorem num_back {bs : List UInt8} {u k : Nat} (h : num bs = some (u, k)) : bs.take k = enc (zag u) ∧ u < 18446744073709551616 ∧ k ≤ bs.length := by
  by_cases hb : bad bs
  · rw [num_bad hb] at h
    simp at h
  · rw [num_ok hb] at h
    simp only [Option.some.injEq, Prod.mk.injEq] at h
    obtain ⟨hu, hk⟩ := h
    unfold bad at hb
    rw [hk] at hu hb
    have hle := len7_le 10 bs
    rw [hk] at hle
    obtain ⟨j, rfl⟩ : ∃ j, k = j + 1 := ⟨k - 1, by omega⟩
    have h1 := encF_back 9 bs j hk (fun hj e => hb (Or.inr (Or.inl ⟨by omega, by simpa using e⟩)))
    rw [hu] at h1
    refine ⟨?_, ?_, hle.2⟩
    · unfold enc
      rw [zig_zag]
      exact h1.symm
    · have h2 := acc_take_lt bs (j + 1)
      rw [hu] at h2
      by_cases hj : j + 1 ≤ 9
      · have : (128 : Nat) ^ (j + 1) ≤ 128 ^ 9 := Nat.pow_le_pow_right (by omega) hj
        have h9 : (128 : Nat) ^ 9 = 9223372036854775808 := by decide
        omega
      · have hj9 : j = 9 := by omega
        subst hj9
        have h3 := acc_take bs 9 (by omega)
        rw [hu] at h3
        have h4 := acc_take_lt bs 9
        have h9 : (128 : Nat) ^ 9 = 9223372036854775808 := by decide
        have h9' : (128 : Int) ^ 9 = 9223372036854775808 := by decide
        have h5 : at8 bs 9 ≤ 1 := by
          by_cases h6 : 1 < at8 bs 9
          · exact absurd (Or.inr (Or.inr ⟨rfl, h6⟩)) hb
          · omega
        have h6 := (at8_bd bs 9).1
        rw [h9] at h4
        rw [h9'] at h3
        have h7 : at8 bs 9 % 128 ≤ 1 := by omega
        omega
theorem rNum_back {bs : List UInt8} {n : Int} {r : List UInt8} (h : rNum (some bs) = (n, some r)) : bs = enc n ++ r ∧ -9223372036854775808 ≤ n ∧ n ≤ 9223372036854775807 := by
  cases hn : num bs with
  | none => simp [rNum, hn] at h
  | some x =>
    obtain ⟨u, k⟩ := x
    simp only [rNum, hn, Prod.mk.injEq, Option.some.injEq] at h
    obtain ⟨rfl, rfl⟩ := h
    obtain ⟨h1, h2, h3⟩ := num_back hn
    refine ⟨?_, ?_⟩
    · rw [← h1, List.take_append_drop]
    · unfold zag
      split <;> omega
theorem rText_back {bs t r : List UInt8} (h : rText (some bs) = (t, some r)) : bs = enc (t.length : Int) ++ (t ++ r) := by
  unfold rText at h
  cases hn : rNum (some bs) with
  | mk n st =>
    rw [hn] at h
    cases st with
    | none => exact absurd (congrArg Prod.snd h) (by simp)
    | some x =>
      simp only [rCut] at h
      split at h
      · rename_i hc
        simp only [Prod.mk.injEq, Option.some.injEq] at h
        obtain ⟨rfl, rfl⟩ := h
        have h1 := (rNum_back hn).1
        have hl : ((x.take n.toNat).length : Int) = n := by rw [List.length_take]; omega
        rw [hl, List.take_append_drop]
        exact h1
      · simp at h
theorem unseal_back {body : List UInt8} {n : Int} {d : List UInt8} (h : unsealL body = some (n, d)) : body = enc n ++ (enc (d.length : Int) ++ d) ∧ -9223372036854775808 ≤ n ∧ n ≤ 9223372036854775807 ∧ d.length ≤ 32768 := by
  unfold unsealL at h
  cases hn : rNum (some body) with
  | mk m st =>
    rw [hn] at h
    cases st with
    | none => simp [rText, rNum] at h
    | some x =>
      cases ht : rText (some x) with
      | mk t st2 =>
        simp only [ht] at h
        cases st2 with
        | none => simp at h
        | some r =>
          simp only at h
          split at h
          · rename_i hc
            simp only [Option.some.injEq, Prod.mk.injEq] at h
            obtain ⟨rfl, rfl⟩ := h
            have h1 := rNum_back hn
            have h2 := rText_back ht
            have hr : r = [] := List.eq_nil_of_length_eq_zero hc.1
            subst hr
            rw [List.append_nil] at h2
            exact ⟨by rw [h1.1, h2], h1.2.1, h1.2.2, hc.2⟩
          · simp at h
theorem unseal_rec (n : Int) (d : List UInt8) (h0 : -9223372036854775808 ≤ n) (h1 : n ≤ 9223372036854775807) (hl : d.length ≤ 32768) : unsealL (enc n ++ (enc (d.length : Int) ++ d)) = some (n, d) := by
  unfold unsealL
  rw [rNum_enc n _ h0 h1]
  have := rText_enc d [] (by omega)
  rw [List.append_nil] at this
  rw [this]
  simp [hl]
theorem recB_len {body : List UInt8} {n : Int} {d : List UInt8} (h : unsealL body = some (n, d)) : (recB n d).length = 8 + body.length := by
  unfold recB
  rw [Fr.seal_len, (unseal_back h).1]
end Go.Proofs.YtjndgekpdmlbiaaGreatDoor.Wl
namespace Go.Proofs.YtjndgekpdmlbiaaGreatDoor.Wl
open Go.RowKit Dk

theorem scan_bound : ∀ (m : Nat) (bs : List UInt8), bs.length ≤ m → (Fr.scanL bs).1.length ≤ bs.length ∧ ∀ b ∈ (Fr.scanL bs).1, b.length ≤ bs.length
  | 0, bs, h => by
    have e : bs = [] := List.eq_nil_of_length_eq_zero (by omega)
    subst e
    rw [Fr.scan_nil]
    simp
  | m + 1, bs, h => by
    cases hf : Fr.firstB bs with
    | none => rw [Fr.scan_none hf]; simp
    | some b =>
      rw [Fr.scan_some hf]
      have hl := (Fr.first_some hf).2.2
      have hd : (bs.drop (8 + b.length)).length = bs.length - (8 + b.length) := by simp
      obtain ⟨i1, i2⟩ := scan_bound m (bs.drop (8 + b.length)) (by omega)
      refine ⟨by simp only [List.length_cons]; omega, fun x hx => ?_⟩
      rcases List.mem_cons.1 hx with rfl | hx
      · omega
      · have := i2 x hx
        omega

/-- The bytes of a file. -/
def fileOf (s : St) (n : ByteArray) : List UInt8 := ((Dk.look n s.now).map Fl.bs).getD []
theorem read_w (pd : Nat) (s : St) (F : Nat → Prop) (w : World) (h : Dk w pd s F) (hm : s.mass ≤ 1000000000) :
    Calls Tryz.prog 72 #[.pointer (some ⟨pd, 0, none⟩), .string nmW] w fun e w' => ∃ ao cap ok, e = .returned (.tuple #[.slice ao (fileOf s nmW).length cap, .bool ok]) ∧ Hid (Sl w' (.slice ao (fileOf s nmW).length cap) (fileOf s nmW) ∧ Below w.heap.size w w') := by
  unfold fileOf
  cases hl : Dk.look nmW s.now with
  | none =>
    refine (read_miss pd s F nmW w h hl hm).mono ?_
    rintro e w' ⟨rfl, hb⟩
    exact ⟨none, 0, false, rfl, Sl.nil _, hb⟩
  | some f =>
    refine (read_hit pd s F nmW f w h hl hm).mono ?_
    rintro e w' ⟨v', rfl, hO, hb⟩
    have hS := Sl.of_own hO
    obtain ⟨ao, cap, rfl, _, _⟩ := hS.shape
    exact ⟨ao, cap, true, rfl, hS, hb⟩

set_option maxHeartbeats 4000000 in
set_option maxRecDepth 20000 in
theorem load_walk (p pd : Nat) (s : St) (F : Nat → Prop) (w : World) (hp : w.heap[p]? = some (.cells #[.pointer (some ⟨pd, 0, none⟩), .int .i64 0, .slice none 0 0] 104 (0, 0))) (hD : Dk w pd s F) (hFp : ¬ F p) (ht : Fr.Tab w) (hl : (fileOf s nmW).length ≤ 30000) (hm : s.mass + 1 ≤ 1000000000) (first : Int) (ds : List (List UInt8)) (hR : loadR (Fr.scanL (fileOf s nmW)).1 0 [] = (first, ds)) :
    Calls Tryz.prog 47 #[.pointer (some ⟨p, 0, none⟩)] w fun e w' => e = .returned (.tuple #[]) ∧ ∃ wS wr, Below w.heap.size w wS ∧ LD wS wr p pd first ds ∧ Dk wr pd s F ∧ (((fileB first ds).length < (fileOf s nmW).length ∧ Dk w' pd (s.push (.cut nmW (fileB first ds).length)) (ext F wr w') ∧ Fr F wr w') ∨ (¬ (fileB first ds).length < (fileOf s nmW).length ∧ w' = wr)) := by
  have hplt : p < w.heap.size := (Array.getElem?_eq_some_iff.1 hp).1
  obtain ⟨fb, Hfb⟩ : ∃ fb, Hid (fb = fileOf s nmW) := ⟨_, (rfl : _ = _)⟩
  have HRd : Hid (_) := read_w pd s F w hD (by omega)
  rw [← Hfb.out] at HRd hl hR ⊢
  obtain ⟨bodies, Hbo⟩ : ∃ bodies, Hid (bodies = (Fr.scanL fb).1) := ⟨_, (rfl : _ = _)⟩
  rw [← Hbo.out] at hR
  have hbb := scan_bound _ fb (Nat.le_refl _)
  rw [← Hbo.out] at hbb
  have c0 : w.cell? ⟨p, 0, none⟩ = some (.pointer (some ⟨pd, 0, none⟩)) := by rw [cell_of_row w p 0 _ _ _ hp]; rfl
  have HSc : Hid (∀ u v, Below w.heap.size w u → Sl u v fb → Calls Tryz.prog 73 #[v] u fun e w' => ∃ ao cap z, e = .returned (.tuple #[.slice ao bodies.length cap, .int .i64 z]) ∧ Hid (Below w.heap.size w w' ∧ (∀ (wr : World) (i : Nat) (hi : i < bodies.length), Fr (fun k => k = p) w' wr → ∃ g aob capb, ao = some ⟨g, 0, none⟩ ∧ wr.cell? ⟨g, i, none⟩ = some (.slice aob bodies[i].length capb) ∧ Sl wr (.slice aob bodies[i].length capb) bodies[i]))) := by
    intro u v hb hS
    refine (Fr.scan_any v fb u hS (ht.below hb) (by omega)).mono ?_
    rintro e w' ⟨vl, rfl, hsl, hb'⟩
    rw [← Hbo.out] at hsl
    obtain ⟨vals, hvl, hO, hel⟩ := hsl
    have hbw : Below w.heap.size w w' := hb.trans (hb'.mono hb.size)
    have hsu := hb.size
    obtain ⟨ao, cap, rfl, hao⟩ : ∃ ao cap, vl = .slice ao bodies.length cap ∧ (0 < bodies.length → ∃ g, ao = some ⟨g, 0, none⟩ ∧ u.heap.size ≤ g) := by
      rcases hO.2 with ⟨rfl, e⟩ | ⟨g, cap, cur, rfl, hg, _⟩
      · exact ⟨none, 0, by rw [e], fun h => by omega⟩
      · exact ⟨_, _, rfl, fun _ => ⟨g, rfl, hg⟩⟩
    refine ⟨ao, cap, _, rfl, hbw, fun wr i hi hf => ?_⟩
    obtain ⟨g, rfl, hgu⟩ := hao (by omega)
    obtain ⟨x, hx, hE⟩ := hel i bodies[i] (List.getElem?_eq_getElem hi)
    have hOE : w'.ownsRow u.heap.size 5 1 x bodies[i].length (cells8 bodies[i]) := hE
    obtain ⟨aob, capb, rfl, _, _⟩ := (Sl.of_own hOE).shape
    have hc : w'.cell? ⟨g, i, none⟩ = some (.slice aob bodies[i].length capb) := by
      rw [hO.cellAt i (by omega)]
      exact hx
    refine ⟨g, aob, capb, rfl, hf.cell hc (by show ¬ g = p; omega), Sl.of_own (own_kept hOE hf (fun k hk e => ?_))⟩
    have := (hOE.lt k hk).1
    omega
  have HCut : Hid (∀ wr F2, Dk wr pd s F2 → (fileB first ds).length < fb.length → Calls Tryz.prog 78 #[.pointer (some ⟨pd, 0, none⟩), .string nmW, .int .i64 ((fileB first ds).length : Nat)] wr fun e w' => (∃ c, e = .returned (.int .i64 c)) ∧ Hid (Dk w' pd (s.push (.cut nmW (fileB first ds).length)) (ext F2 wr w') ∧ Fr F2 wr w')) := by
    intro wr F2 hDr hlt
    have hfe := Hfb.out
    unfold fileOf at hfe
    cases hlk : Dk.look nmW s.now with
    | none => rw [hlk] at hfe; simp at hfe; rw [hfe] at hlt; simp at hlt
    | some f =>
      rw [hlk] at hfe
      simp at hfe
      refine (cut_ok pd s F2 nmW (fileB first ds).length f wr hDr hlk (by rw [← hfe]; omega) hm).mono ?_
      rintro e w' ⟨rfl, h1, h2⟩
      exact ⟨⟨_, rfl⟩, h1, h2⟩
  have hL0 : ∀ u, Below w.heap.size w u → LD u u p pd 0 [] := fun u hb => by
    have hpu : u.heap[p]? = some (.cells #[.pointer (some ⟨pd, 0, none⟩), .int .i64 0, .slice none 0 0] 104 (0, 0)) := (hb.block p hplt).trans hp
    exact ⟨.slice none 0 0, [], fun _ => False, ⟨hpu, World.ownsRow_nil _ _ _ _, by simp, by simp, by simp [Value.ownBlock], fun _ h => h.elim, id, by simp, fun _ => rfl, by decide⟩, rfl, fun _ h => h.elim, Fr.refl _ _⟩
  have HL0 : Hid (_) := hL0
  have HDk : Hid (∀ wS wr, Below w.heap.size w wS → Fr (fun k => k = p) wS wr → Dk wr pd s F) := fun wS wr hb hf => (hD.below hb).kept hf (fun k hk e => hFp (e ▸ hk))
  have hb1 := hbb.1
  have HB2 : Hid (_) := hbb.2
  have HR : Hid (_) := hR
  clear hp hD hFp ht hm hR hL0 hbb
  simp only [nmW] at HRd HCut
  go_enter Tryz.func47, Tryz.ntmps47
  go_wp2_with (go_at_call 72; refine Calls.mono HRd.out ?_; rintro e w1 ⟨ao1, cap1, ok1, rfl, HX1⟩)
  have HS2 : Hid (_) := HSc.out w1 _ HX1.out.2 HX1.out.1
  clear HSc HRd
  go_wp2_with (go_at_call 73; refine Calls.mono HS2.out ?_; rintro e wS ⟨ao2, cap2, z2, rfl, HX2⟩)
  clear HS2
  obtain ⟨Z, HZ⟩ : ∃ Z, Hid (Z = (fileB first ds).length) := ⟨_, (rfl : _ = _)⟩
  obtain ⟨nd, HND⟩ : ∃ nd, Hid (nd = ds.length) := ⟨_, (rfl : _ = _)⟩
  have HFin : Hid (∀ wr, LD wS wr p pd first ds → nd ≤ 100000 → ∃ ao cap, wr.cell? ⟨p, 2, none⟩ = some (.slice ao nd cap) ∧ wr.cell? ⟨p, 0, none⟩ = some (.pointer (some ⟨pd, 0, none⟩)) ∧ Hid (Calls Tryz.prog 77 #[.pointer (some ⟨p, 0, none⟩), .int .i64 (nd : Int)] wr fun e w' => e = .returned (.int .i64 (Z : Nat)) ∧ w' = wr) ∧
      Hid (Z < fb.length → Calls Tryz.prog 78 #[.pointer (some ⟨pd, 0, none⟩), .string ⟨#[119]⟩, .int .i64 (Z : Nat)] wr fun e w' => (∃ c, e = .returned (.int .i64 c)) ∧ Hid (Dk w' pd (s.push (.cut nmW (fileB first ds).length)) (ext F wr w') ∧ Fr F wr w')) ∧ Hid (Dk wr pd s F)) := by
    intro wr hL hdl
    rw [HND.out] at hdl ⊢
    rw [HZ.out]
    obtain ⟨ao, cap, h1, h2, h3⟩ := hL.size hdl
    have hD := HDk.out wS wr HX2.out.1 hL.fr
    exact ⟨ao, cap, h1, h2, h3, fun hlt => HCut.out wr F hD hlt, hD⟩
  have HBS : Hid (Below w.heap.size w wS) := HX2.out.1
  clear HDk HCut
  go_loopw [27] (fun vi wr => ∃ (k : Nat) (f : Int) (es : List (List UInt8)), k ≤ bodies.length ∧ vi = .int .i64 k ∧ Hid (LD wS wr p pd f es ∧ loadR (bodies.drop k) f es = (first, ds) ∧ es.length ≤ k ∧ (fileB f es).length ≤ 32800 * k)) (fun vi _ => bodies.length - (intOf vi).toNat)
  case atStart => exact ⟨0, 0, [], Nat.zero_le _, rfl, HL0.out wS HX2.out.1, by rw [List.drop_zero]; exact HR.out, by simp, by simp [fileB]⟩
  case round =>
    clear HL0 HR
    obtain ⟨k, f, es, hk, rfl, HK⟩ := hrel
    by_cases hlt : k < bodies.length
    · have hlt' : (k : Int) < (bodies.length : Int) := by omega
      obtain ⟨g, aob, capb, rfl, hcell, hSb⟩ := HX2.out.2 wr k hlt HK.out.1.fr
      have HU : Hid (_) := unseal_any _ bodies[k] wr hSb (by have := HB2.out bodies[k] (List.getElem_mem hlt); omega)
      have hdrop : bodies.drop k = bodies[k] :: bodies.drop (k + 1) := List.drop_eq_getElem_cons hlt
      have HLR := HK.out.2.1
      rw [hdrop, loadR] at HLR
      obtain ⟨bk, Hbk⟩ : ∃ bk, Hid (bk = bodies[k]) := ⟨bodies[k], (rfl : _ = bodies[k])⟩
      rw [← Hbk.out] at hcell HU HLR
      have hbkl : bk.length ≤ 30000 := by
        have := HB2.out bodies[k] (List.getElem_mem hlt)
        rw [Hbk.out]
        omega
      have HKL : Hid (_) := HK.out.1
      have hes := HK.out.2.2.1
      have hfe := HK.out.2.2.2
      have hk3 : k ≤ 30000 := by omega
      clear hSb hdrop HK
      cases hun : unsealL bk with
      | none =>
        rw [hun] at HLR HU
        simp only [Prod.mk.injEq] at HLR
        obtain ⟨rfl, rfl⟩ := HLR
        clear hun
        have hnd : nd ≤ 100000 := by rw [HND.out]; omega
        by_cases hcut : Z < fb.length
        · have hcut' : (Z : Int) < (fb.length : Int) := by omega
          go_wp2_with (first
            | (go_at_call 74; refine Calls.mono HU.out ?_; rintro e w5 ⟨n5, ao5, L5, cap5, ok5, rfl, HX5⟩; have hok5 : ok5 = false := HX5.out.2; subst hok5; have hLD := LD.below HKL.out HX5.out.1; have HLD : Hid (_) := hLD; obtain ⟨ao3, cap3, e2, e0, HE, HC, HDr⟩ := HFin.out _ hLD hnd; clear hLD)
            | (go_at_call 77; refine Calls.mono HE.out ?_; rintro e w' ⟨rfl, hw⟩; have hw' := hw.symm; subst hw')
            | (go_at_call 78; refine Calls.mono (HC.out hcut) ?_; rintro e w9 ⟨⟨c9, rfl⟩, HX9⟩))
          go_end0
          exact ⟨rfl, wS, _, HBS.out, HLD.out, HDr.out, Or.inl ⟨by rw [← HZ.out]; exact hcut, HX9.out⟩⟩
        · have hcut' : ¬ (Z : Int) < (fb.length : Int) := by omega
          go_wp2_with (first
            | (go_at_call 74; refine Calls.mono HU.out ?_; rintro e w5 ⟨n5, ao5, L5, cap5, ok5, rfl, HX5⟩; have hok5 : ok5 = false := HX5.out.2; subst hok5; have hLD := LD.below HKL.out HX5.out.1; have HLD : Hid (_) := hLD; obtain ⟨ao3, cap3, e2, e0, HE, HC, HDr⟩ := HFin.out _ hLD hnd; clear hLD)
            | (go_at_call 77; refine Calls.mono HE.out ?_; rintro e w' ⟨rfl, hw⟩; have hw' := hw.symm; subst hw'))
          go_end0
          exact ⟨rfl, wS, _, HBS.out, HLD.out, HDr.out, Or.inr ⟨by rw [← HZ.out]; exact hcut, rfl⟩⟩
      | some nd0 =>
        obtain ⟨n, d⟩ := nd0
        have HRL : Hid (_) := recB_len hun
        have HUB : Hid (_) := unseal_back hun
        rw [hun] at HLR HU
        simp only at HLR
        clear hun
        by_cases hmay : mayL f es n = true
        · rw [if_pos hmay] at HLR
          have HLR' : Hid (_) := HLR
          have HMay : Hid (_) := hmay
          clear HLR hmay
          go_wp2_with (go_at_call 74; refine Calls.mono HU.out ?_; rintro e w5 ⟨n5, ao5, L5, cap5, ok5, rfl, HX5⟩; have hok5 : ok5 = true := HX5.out.2.1; subst hok5; have hn5 : n5 = n := HX5.out.2.2.1; subst hn5)
          have HMc : Hid (_) := LD.may (LD.below HKL.out HX5.out.1) n5 HUB.out.2.2.1
          rw [HMay.out] at HMc
          have HAd : Hid (∀ m, Calls Tryz.prog 76 #[.pointer (some ⟨p, 0, none⟩), .int .i64 n5, .slice ao5 L5 cap5, .int .i64 (8 + (bk.length : Int))] (w5.drewN m) fun e w' => e = .returned (.tuple #[]) ∧ Hid (LD wS w' p pd (if es.length = 0 then n5 else f) (es ++ [d]))) := by
            intro m
            have hbm : Below wr.heap.size wr (w5.drewN m) := HX5.out.1.trans ⟨rfl, rfl, rfl, Nat.le_refl _, fun _ _ => rfl⟩
            have h8 : ((8 + bk.length : Nat) : Int) = 8 + (bk.length : Int) := by omega
            rw [← h8]
            exact LD.add (LD.below HKL.out hbm) (Nat.lt_of_lt_of_le hplt HBS.out.size) HKL.out hbm n5 _ d (8 + bk.length) HX5.out.2.2.2.1 (fun a m c e => HX5.out.2.2.2.2 a m c e) HMay.out HUB.out.2.2.1 HRL.out.symm (by omega) (by omega)
          have HFl : Hid ((fileB (if es.length = 0 then n5 else f) (es ++ [d])).length ≤ 32800 * (k + 1)) := by
            show _ ≤ _
            have h1 := HRL.out
            by_cases hz : es.length = 0
            · have : es = [] := List.eq_nil_of_length_eq_zero hz
              subst this
              simp [fileB, h1]
              omega
            · rw [if_neg hz, fileB_append, List.length_append]
              have h2 : (fileB (f + es.length) [d]).length ≤ 32800 := by
                simp only [fileB, List.append_nil]
                unfold recB
                rw [Fr.seal_len, List.length_append, List.length_append]
                have := Bn.enc_le (f + es.length)
                have := Bn.enc_le (d.length : Int)
                have := HUB.out.2.2.2
                omega
              omega
          clear HMay
          go_wp2_with (first
            | (go_at_call 75; refine Calls.mono HMc.out ?_; rintro e w6 ⟨rfl, m6, rfl⟩)
            | (go_at_call 76; refine Calls.mono (HAd.out m6) ?_; rintro e w7 ⟨rfl, HX7⟩))
          go_roundw
          case rel => exact ⟨k + 1, _, _, by omega, by go_num, HX7.out, HLR'.out, by rw [List.length_append]; simp; omega, HFl.out⟩
          case measure => simp [intOf]; omega
        · rw [if_neg hmay] at HLR
          have hmay' : mayL f es n = false := by simpa using hmay
          have HMay : Hid (_) := hmay'
          clear hmay hmay'
          simp only [Prod.mk.injEq] at HLR
          obtain ⟨rfl, rfl⟩ := HLR
          have hnd : nd ≤ 100000 := by rw [HND.out]; omega
          by_cases hcut : Z < fb.length
          · have hcut' : (Z : Int) < (fb.length : Int) := by omega
            go_wp2_with (first
              | (go_at_call 74; refine Calls.mono HU.out ?_; rintro e w5 ⟨n5, ao5, L5, cap5, ok5, rfl, HX5⟩; have hok5 : ok5 = true := HX5.out.2.1; subst hok5; have hn5 : n5 = n := HX5.out.2.2.1; subst hn5; have HMc : Hid (_) := LD.may (LD.below HKL.out HX5.out.1) n5 HUB.out.2.2.1; rw [HMay.out] at HMc)
              | (go_at_call 75; refine Calls.mono HMc.out ?_; rintro e w6 ⟨rfl, m6, rfl⟩; have hLD := LD.below HKL.out (w' := w5.drewN m6) (HX5.out.1.trans ⟨rfl, rfl, rfl, Nat.le_refl _, fun _ _ => rfl⟩); have HLD : Hid (_) := hLD; obtain ⟨ao3, cap3, e2, e0, HE, HC, HDr⟩ := HFin.out _ hLD hnd; clear hLD)
              | (go_at_call 77; refine Calls.mono HE.out ?_; rintro e w' ⟨rfl, hw⟩; have hw' := hw.symm; subst hw')
              | (go_at_call 78; refine Calls.mono (HC.out hcut) ?_; rintro e w9 ⟨⟨c9, rfl⟩, HX9⟩))
            go_end0
            exact ⟨rfl, wS, _, HBS.out, HLD.out, HDr.out, Or.inl ⟨by rw [← HZ.out]; exact hcut, HX9.out⟩⟩
          · have hcut' : ¬ (Z : Int) < (fb.length : Int) := by omega
            go_wp2_with (first
              | (go_at_call 74; refine Calls.mono HU.out ?_; rintro e w5 ⟨n5, ao5, L5, cap5, ok5, rfl, HX5⟩; have hok5 : ok5 = true := HX5.out.2.1; subst hok5; have hn5 : n5 = n := HX5.out.2.2.1; subst hn5; have HMc : Hid (_) := LD.may (LD.below HKL.out HX5.out.1) n5 HUB.out.2.2.1; rw [HMay.out] at HMc)
              | (go_at_call 75; refine Calls.mono HMc.out ?_; rintro e w6 ⟨rfl, m6, rfl⟩; have hLD := LD.below HKL.out (w' := w5.drewN m6) (HX5.out.1.trans ⟨rfl, rfl, rfl, Nat.le_refl _, fun _ _ => rfl⟩); have HLD : Hid (_) := hLD; obtain ⟨ao3, cap3, e2, e0, HE, HC, HDr⟩ := HFin.out _ hLD hnd; clear hLD)
              | (go_at_call 77; refine Calls.mono HE.out ?_; rintro e w' ⟨rfl, hw⟩; have hw' := hw.symm; subst hw'))
            go_end0
            exact ⟨rfl, wS, _, HBS.out, HLD.out, HDr.out, Or.inr ⟨by rw [← HZ.out]; exact hcut, rfl⟩⟩
    · have hkb : k = bodies.length := by omega
      have hlt' : ¬ (k : Int) < (bodies.length : Int) := by omega
      have HLR := HK.out.2.1
      rw [List.drop_of_length_le (by omega), loadR] at HLR
      simp only [Prod.mk.injEq] at HLR
      obtain ⟨rfl, rfl⟩ := HLR
      have hnd : nd ≤ 100000 := by rw [HND.out]; have := HK.out.2.2.1; omega
      have HLD : Hid (_) := HK.out.1
      obtain ⟨ao3, cap3, e2, e0, HE, HC, HDr⟩ := HFin.out _ HLD.out hnd
      clear HK hkb HFin
      by_cases hcut : Z < fb.length
      · have hcut' : (Z : Int) < (fb.length : Int) := by omega
        go_wp2_with (first
          | (go_at_call 77; refine Calls.mono HE.out ?_; rintro e w' ⟨rfl, hw⟩; have hw' := hw.symm; subst hw')
          | (go_at_call 78; refine Calls.mono (HC.out hcut) ?_; rintro e w9 ⟨⟨c9, rfl⟩, HX9⟩))
        go_end0
        exact ⟨rfl, wS, _, HBS.out, HLD.out, HDr.out, Or.inl ⟨by rw [← HZ.out]; exact hcut, HX9.out⟩⟩
      · have hcut' : ¬ (Z : Int) < (fb.length : Int) := by omega
        go_wp2_with (go_at_call 77; refine Calls.mono HE.out ?_; rintro e w' ⟨rfl, hw⟩; have hw' := hw.symm; subst hw')
        go_end0
        exact ⟨rfl, wS, _, HBS.out, HLD.out, HDr.out, Or.inr ⟨by rw [← HZ.out]; exact hcut, rfl⟩⟩
end Go.Proofs.YtjndgekpdmlbiaaGreatDoor.Wl
namespace Go.Proofs.YtjndgekpdmlbiaaGreatDoor.Wl
open Go.RowKit Dk

/-- Does a name begin with w? -/
def preW (n : ByteArray) : Bool := decide (1 ≤ n.size) && ((n.extract 0 1).toList == nmW.toList)

set_option maxHeartbeats 1000000 in
theorem pre_any (n : ByteArray) (w : World) (hn : n.size ≤ maxLen) : Calls Tryz.prog 70 #[.string n, .string nmW] w fun e w' => e = .returned (.bool (preW n)) ∧ w' = w := by
  unfold maxLen at hn
  have H : Hid (Calls Tryz.prog 100 #[.string n, .string ⟨#[119]⟩] w fun e w' => e = .returned (.bool (preW n)) ∧ w' = w) := by
    by_cases h : 1 ≤ n.size
    · have h' : (1 : Int) ≤ (n.size : Int) := by omega
      have hp : preW n = ((n.extract 0 1).toList == nmW.toList) := by unfold preW; simp [h]
      have hp2 : preW n = ((n.extract 0 1).toList == [119]) := by
        rw [hp]; unfold nmW; rw [toList_data ⟨#[119]⟩]
      clear hp
      go_enter Tryz.func100, Tryz.ntmps100
      go_wp2
      go_ret
      refine ⟨congrArg (fun b => Ending.returned (Value.bool b)) ?_, rfl⟩
      rw [hp2]
    · have h' : ¬ (1 : Int) ≤ (n.size : Int) := by omega
      have hp : preW n = false := by unfold preW; simp; omega
      rw [hp]
      clear hp
      go_enter Tryz.func100, Tryz.ntmps100
      go_wp2
      go_ret
      exact ⟨rfl, rfl⟩
  show Calls Tryz.prog 70 #[.string n, .string ⟨#[119]⟩] w _
  go_enter Tryz.func70, Tryz.ntmps70
  go_wp2_with (go_at_call 100; refine Calls.mono H.out ?_; rintro e w' ⟨rfl, hw⟩; have hw' := hw.symm; subst hw')
  go_ret
  exact ⟨rfl, rfl⟩

def rmStep (s : St) (n : ByteArray) : St := if (Dk.look n s.now).isSome = true then s.push (.rem n) else s
def strayStep (s : St) (n : ByteArray) : St := if preW n = true ∧ n ≠ nmW then rmStep s n else s
def strays (s : St) (ns : List ByteArray) : St := ns.foldl strayStep s
theorem stray_mass (s : St) (n : ByteArray) : (strayStep s n).mass ≤ s.mass + 1 := by
  unfold strayStep rmStep
  split
  · split
    · rw [St.push_mass]; simp [Ch.mass]
    · omega
  · omega
theorem strays_mass : ∀ (ns : List ByteArray) (s : St), (strays s ns).mass ≤ s.mass + ns.length
  | [], s => by simp [strays]
  | n :: ns, s => by
    have h1 := strays_mass ns (strayStep s n)
    have h2 := stray_mass s n
    unfold strays at h1 ⊢
    rw [List.foldl_cons, List.length_cons]
    omega
theorem look_del_ne {n m : ByteArray} (h : n ≠ m) (fs : List Fl) : Dk.look m (Dk.del n fs) = Dk.look m fs := by
  unfold Dk.look Dk.del
  induction fs with
  | nil => rfl
  | cons x r ih =>
    rw [List.filter_cons]
    by_cases hx : x.name = n
    · have hm : x.name ≠ m := fun e => h (hx.symm.trans e)
      simp [hx, h, ih]
    · simp only [hx, decide_false, Bool.not_false, if_true, List.find?_cons]
      rw [ih]
theorem stray_look (s : St) (n : ByteArray) : Dk.look nmW (strayStep s n).now = Dk.look nmW s.now := by
  unfold strayStep
  split
  · rename_i h
    unfold rmStep
    split
    · rw [St.push_now]
      exact look_del_ne h.2 _
    · rfl
  · rfl
theorem strays_look : ∀ (ns : List ByteArray) (s : St), Dk.look nmW (strays s ns).now = Dk.look nmW s.now
  | [], s => rfl
  | n :: ns, s => by
    have h1 := strays_look ns (strayStep s n)
    unfold strays at h1 ⊢
    rw [List.foldl_cons, h1, stray_look]

theorem rm_any (pd : Nat) (s : St) (F : Nat → Prop) (n : ByteArray) (w : World) (h : Dk w pd s F) (hm : s.mass + 1 ≤ 1000000000) :
    Calls Tryz.prog 71 #[.pointer (some ⟨pd, 0, none⟩), .string n] w fun e w' => (∃ c, e = .returned (.int .i64 c)) ∧ Dk w' pd (rmStep s n) (ext F w w') ∧ Fr F w w' := by
  unfold rmStep
  cases hl : (Dk.look n s.now).isSome with
  | true =>
    rw [if_pos rfl]
    exact (remove_some pd s F n w h hl hm).mono fun _ _ ⟨he, h1, h2⟩ => ⟨⟨_, he⟩, h1, h2⟩
  | false =>
    rw [if_neg (by simp)]
    have hl' : Dk.look n s.now = none := by simpa using hl
    refine (remove_none pd s F n w h hl' (by omega)).mono ?_
    rintro e w' ⟨rfl, hb⟩
    exact ⟨⟨_, rfl⟩, (h.below hb).mono (fun _ hk => Or.inl hk) (ext_lt h.lt hb.size), Fr.of_below hb⟩

set_option maxHeartbeats 2000000 in
set_option maxRecDepth 20000 in
theorem strays_any (pd : Nat) (s : St) (F : Nat → Prop) (w : World) (h : Dk w pd s F) (hm : s.mass + s.now.length + 1 ≤ 100000000) (hsz : ∀ f ∈ s.now, f.name.size ≤ maxLen) :
    Calls Tryz.prog 46 #[.pointer (some ⟨pd, 0, none⟩)] w fun e w' => e = .returned (.tuple #[]) ∧ (∃ F', Dk w' pd (strays s (s.now.map Fl.name)) F' ∧ ∀ k, F' k → F k ∨ w.heap.size ≤ k) ∧ Fr F w w' := by
  have HN : Hid (_) := names_any pd s F w h (by omega)
  have hFlt := h.lt
  obtain ⟨ns, Hns⟩ : ∃ ns, Hid (ns = s.now.map Fl.name) := ⟨_, (rfl : _ = _)⟩
  have hnl : ns.length = s.now.length := by rw [Hns.out]; simp
  have HSz : Hid (∀ i (hi : i < ns.length), ns[i].size ≤ maxLen) := by
    intro i hi
    have : ns[i] ∈ s.now.map Fl.name := by rw [← Hns.out]; exact List.getElem_mem hi
    obtain ⟨f, hf, e⟩ := List.mem_map.1 this
    rw [← e]
    exact hsz f hf
  rw [← Hns.out]
  have hmap : s.now.map (fun f => Value.string f.name) = ns.map Value.string := by rw [Hns.out, List.map_map]; rfl
  have HN2 : Hid (Calls Tryz.prog 69 #[.pointer (some ⟨pd, 0, none⟩)] w fun e w1 => ∃ ao cap, e = .returned (.slice ao ns.length cap) ∧ Hid (Below w.heap.size w w1 ∧ Dk w1 pd s F ∧ ∀ wr, Fr F w1 wr → ∀ i (hi : i < ns.length), ∃ g, ao = some ⟨g, 0, none⟩ ∧ wr.cell? ⟨g, i, none⟩ = some (.string ns[i]))) := by
    refine Calls.mono HN.out ?_
    rintro e w1 ⟨v, rfl, hO, hb⟩
    rw [hmap, ← hnl] at hO
    obtain ⟨ao, cap, rfl, hao⟩ : ∃ ao cap, v = .slice ao ns.length cap ∧ (0 < ns.length → ∃ g, ao = some ⟨g, 0, none⟩ ∧ w.heap.size ≤ g) := by
      rcases hO.2 with ⟨rfl, e⟩ | ⟨g, cap, cur, rfl, hg, _⟩
      · exact ⟨none, 0, by rw [e], fun h => by omega⟩
      · exact ⟨_, _, rfl, fun _ => ⟨g, rfl, hg⟩⟩
    refine ⟨ao, cap, rfl, hb, h.below hb, fun wr hf i hi => ?_⟩
    obtain ⟨g, rfl, hg⟩ := hao (by omega)
    refine ⟨g, rfl, hf.cell ?_ (fun hF => by have := hFlt g hF; omega)⟩
    rw [hO.cellAt i (by omega), List.getElem?_map, List.getElem?_eq_getElem hi]
    rfl
  have hnb : ns.length ≤ 100000000 := by omega
  have HM : Hid (∀ k, k ≤ ns.length → (strays s (ns.take k)).mass + 1 ≤ 1000000000) := by
    intro k hk
    have h1 := strays_mass (ns.take k) s
    rw [List.length_take] at h1
    omega
  clear hsz hmap hnl HN hm
  go_enter Tryz.func46, Tryz.ntmps46
  go_wp2_with (go_at_call 69; refine Calls.mono HN2.out ?_; rintro e w1 ⟨ao, cap, rfl, HX1⟩)
  go_loopw [7] (fun vi wr => ∃ k : Nat, k ≤ ns.length ∧ vi = .int .i64 k ∧ Hid ((∃ F', Dk wr pd (strays s (ns.take k)) F' ∧ ∀ j, F' j → F j ∨ w1.heap.size ≤ j) ∧ Fr F w1 wr)) (fun vi _ => ns.length - (intOf vi).toNat)
  case atStart => exact ⟨0, Nat.zero_le _, rfl, ⟨F, HX1.out.2.1, fun j hj => Or.inl hj⟩, Fr.refl _ _⟩
  case round =>
    obtain ⟨k, hk, rfl, HK⟩ := hrel
    by_cases hlt : k < ns.length
    · have hlt' : (k : Int) < (ns.length : Int) := by omega
      obtain ⟨g, rfl, hcell⟩ := HX1.out.2.2 wr HK.out.2 k hlt
      have HStep : Hid (strays s (ns.take (k + 1)) = strayStep (strays s (ns.take k)) ns[k]) := by
        show _ = _
        rw [take_succ_snoc ns k ns[k] (List.getElem?_eq_getElem hlt)]
        unfold strays
        rw [List.foldl_append]
        rfl
      have HP : Hid (_) := pre_any ns[k] wr (HSz.out k hlt)
      have HRm : Hid (Calls Tryz.prog 71 #[.pointer (some ⟨pd, 0, none⟩), .string ns[k]] wr fun e w' => (∃ c, e = .returned (.int .i64 c)) ∧ Hid ((∃ F', Dk w' pd (rmStep (strays s (ns.take k)) ns[k]) F' ∧ ∀ j, F' j → F j ∨ w1.heap.size ≤ j) ∧ Fr F w1 w')) := by
        obtain ⟨⟨F', hD, hF'⟩, hf⟩ := HK.out
        refine (rm_any pd _ F' ns[k] wr hD (HM.out k hk)).mono ?_
        rintro e w' ⟨⟨c, rfl⟩, h1, h2⟩
        have hs := hf.size
        refine ⟨⟨c, rfl⟩, ⟨_, h1, fun j hj => ?_⟩, hf.trans h2 (fun j hj hF => ?_)⟩
        · rcases hj with hj | hj
          · exact hF' j hj
          · exact Or.inr (by omega)
        · rcases hF' j hF with hh | hh
          · exact hh
          · omega
      obtain ⟨n, Hn⟩ : ∃ n, Hid (n = ns[k]) := ⟨ns[k], (rfl : _ = ns[k])⟩
      rw [← Hn.out] at hcell HP HRm HStep
      have HK' : Hid (_) := HK.out
      clear HN2 HM
      simp only [nmW] at HP
      cases hpre : preW n with
      | true =>
        rw [hpre] at HP
        by_cases hw : n = nmW
        · have hne : (n.toList == [119]) = true := by rw [hw]; unfold nmW; rw [toList_data ⟨#[119]⟩]; rfl
          have HSame : Hid (strays s (ns.take (k + 1)) = strays s (ns.take k)) := by
            show _ = _
            rw [HStep.out]
            unfold strayStep
            rw [if_neg (fun h => h.2 hw)]
          clear hw hpre
          go_wp2_with (go_at_call 70; refine Calls.mono HP.out ?_; rintro e w' ⟨rfl, hw⟩; have hw' := hw.symm; subst hw')
          go_roundw
          case rel => exact ⟨k + 1, by omega, by go_num, by rw [HSame.out]; exact HK'.out⟩
          case measure => simp [intOf]; omega
        · have hne : (n.toList == [119]) = false := by
            rw [beq_eq_false_iff_ne]
            intro e
            rw [toList_data] at e
            exact hw (Go.WideShapes.bytes_inj e)
          have HSame : Hid (strays s (ns.take (k + 1)) = rmStep (strays s (ns.take k)) n) := by
            show _ = _
            rw [HStep.out]
            unfold strayStep
            rw [if_pos ⟨hpre, hw⟩]
          clear hw hpre
          go_wp2_with (first
            | (go_at_call 70; refine Calls.mono HP.out ?_; rintro e w' ⟨rfl, hw⟩; have hw' := hw.symm; subst hw')
            | (go_at_call 71; refine Calls.mono HRm.out ?_; rintro e w5 ⟨⟨c, rfl⟩, HX5⟩))
          go_roundw
          case rel => exact ⟨k + 1, by omega, by go_num, by rw [HSame.out]; exact HX5.out⟩
          case measure => simp [intOf]; omega
      | false =>
        rw [hpre] at HP
        have HSame : Hid (strays s (ns.take (k + 1)) = strays s (ns.take k)) := by
          show _ = _
          rw [HStep.out]
          unfold strayStep
          rw [if_neg (fun h => by rw [hpre] at h; simp at h)]
        clear hpre
        go_wp2_with (go_at_call 70; refine Calls.mono HP.out ?_; rintro e w' ⟨rfl, hw⟩; have hw' := hw.symm; subst hw')
        go_roundw
        case rel => exact ⟨k + 1, by omega, by go_num, by rw [HSame.out]; exact HK'.out⟩
        case measure => simp [intOf]; omega
    · have hkn : k = ns.length := by omega
      have hlt' : ¬ (k : Int) < (ns.length : Int) := by omega
      have HFin : Hid ((∃ F', Dk wr pd (strays s ns) F' ∧ ∀ j, F' j → F j ∨ w.heap.size ≤ j) ∧ Fr F w wr) := by
        obtain ⟨⟨F', h1, h2⟩, h3⟩ := HK.out
        rw [List.take_of_length_le (by omega)] at h1
        have hb := HX1.out.1
        refine ⟨⟨F', h1, fun j hj => ?_⟩, (Fr.of_below hb).trans h3 (fun _ _ h => h)⟩
        rcases h2 j hj with hh | hh
        · exact Or.inl hh
        · exact Or.inr (Nat.le_trans hb.size hh)
      clear hkn HK
      go_wp2
      go_end0
      exact ⟨rfl, HFin.out.1, HFin.out.2⟩
end Go.Proofs.YtjndgekpdmlbiaaGreatDoor.Wl

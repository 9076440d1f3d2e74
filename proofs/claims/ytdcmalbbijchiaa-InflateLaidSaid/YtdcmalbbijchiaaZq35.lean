/- Several texts in one, each with its own head. -/
import Derived.Test.YtdcmalbbijchiaaZq34
/- inflate, plainly: all blocks that are laid, one behind the other, are told. -/
namespace Go.Proofs.Ytdcmalbbijchiaa

/-- A block that is laid: stored bytes; tokens by the fixed codes; tokens by codes of its own. -/
inductive Bn where
  | st (bs : List Nat)
  | fx (ts : List Tn)
  | dy (x y : List Nat) (ts : List Tn)
def Bn.kind : Bn → Nat
  | .st _ => 0
  | .fx _ => 1
  | .dy _ _ _ => 2
def endP (A : List Nat) : Pt := [(cd (lq A) A.length 256, lq A 256)]
def Bn.body (a : Nat) : Bn → Pt
  | .st bs => putS a bs
  | .fx ts => laidT fixA fixD ts ++ endP fixA
  | .dy x y ts => putO x y ++ (laidT x y ts ++ endP x)
def Bn.put (a : Nat) (last : Bool) (b : Bn) : Pt := (if last then 1 else 0, 1) :: (b.kind, 2) :: b.body (a + 3)
def Bn.tell (b : Bn) (o : List Nat) : List Nat := match b with
  | .st bs => o ++ bs
  | .fx ts => toldT ts o
  | .dy _ _ ts => toldT ts o
def Bn.ok (b : Bn) (o : List Nat) : Prop := match b with
  | .st bs => bs.length ≤ 65535 ∧ ∀ x ∈ bs, x < 256
  | .fx ts => mayT fixA fixD ts o
  | .dy x y ts => x.length = 286 ∧ y.length = 30 ∧ (∀ v ∈ x ++ y, v < 16) ∧ chk x = 0 ∧ chk y = 0 ∧ 0 < lq x 256 ∧ mayT x y ts o
theorem Bn.tell_len (b : Bn) (o : List Nat) : o.length ≤ (b.tell o).length := by
  cases b with
  | st bs => show o.length ≤ (o ++ bs).length; simp
  | fx ts => exact toldT_len ts o
  | dy x y ts => exact toldT_len ts o

theorem fix_256 : 256 < fixA.length ∧ 0 < lq fixA 256 := by decide +kernel

theorem bn_bk {l o : List Nat} {b : Bn} (hb : b.ok o) {a lim : Nat} {last : Bool} {q : Pt} (h : AtP l a (b.put a last ++ q)) :
    ((b.tell o).length ≤ lim → InfBk l lim (a + 1) o (.go (a + szP (b.put a last)) (b.tell o))) ∧ (o.length ≤ lim → lim < (b.tell o).length → InfBk l lim (a + 1) o (.no 81)) := by
  obtain ⟨-, -, p2, q2, h⟩ := h
  simp only at p2 q2 h
  change AtP l (a + 1 + 2) (b.body (a + 3) ++ q) at h
  have e : szP (b.put a last) = 3 + szP (b.body (a + 3)) := by unfold Bn.put; simp only [szP]; omega
  cases b with
  | st bs =>
    obtain ⟨s1, s2⟩ := stored_sd (lim := lim) (o := o) hb.1 h
    have hl : ((Bn.st bs).tell o).length = o.length + bs.length := List.length_append
    rw [hl, e]
    refine ⟨fun h1 => ?_, fun _ h1 => .stored q2 p2 _ (s2 h1)⟩
    rw [← Nat.add_assoc]
    exact .stored q2 p2 _ (s1 h1)
  | fx ts =>
    obtain ⟨c1, c2⟩ := fix_256
    change AtP l (a + 1 + 2) ((laidT fixA fixD ts ++ endP fixA) ++ q) at h
    rw [List.append_assoc] at h
    obtain ⟨t1, t2⟩ := tn_toks fixA_chk fixD_chk c1 c2 lim (ts := ts) hb h
    rw [e]
    refine ⟨fun h1 => ?_, fun h0 h1 => .fixed q2 p2 _ (t2 h0 h1)⟩
    have h3 := InfBk.fixed q2 p2 _ (t1 h1)
    rw [show a + (3 + szP ((Bn.fx ts).body (a + 3))) = a + 1 + 2 + szP (laidT fixA fixD ts) + lq fixA 256 by
      show a + (3 + szP (laidT fixA fixD ts ++ endP fixA)) = _
      rw [szP_app]; simp only [endP, szP]; omega]
    exact h3
  | dy x y ts =>
    obtain ⟨hx, hy, h15, cx, cy, h0, ht⟩ := hb
    change AtP l (a + 1 + 2) ((putO x y ++ (laidT x y ts ++ endP x)) ++ q) at h
    rw [List.append_assoc] at h
    have hd := own_dy hx hy h15 cx cy h0 h
    obtain ⟨-, h⟩ := h.app
    rw [List.append_assoc] at h
    obtain ⟨t1, t2⟩ := tn_toks cx cy (by omega) h0 lim (ts := ts) ht h
    have e1 : (x ++ y).take 286 = x := by rw [← hx, List.take_left]
    have e2 : (x ++ y).drop 286 = y := by rw [← hx, List.drop_left]
    have key : ∀ r, InfToks x y l lim (a + 1 + 2 + szP (putO x y)) o r → InfBk l lim (a + 1) o r := fun r hr => .dyn q2 p2 286 _ _ hd r (by rw [e1, e2]; exact hr)
    rw [e]
    refine ⟨fun h1 => ?_, fun h0 h1 => key _ (t2 h0 h1)⟩
    have h3 := key _ (t1 h1)
    rw [show a + (3 + szP ((Bn.dy x y ts).body (a + 3))) = a + 1 + 2 + szP (putO x y) + szP (laidT x y ts) + lq x 256 by
      show a + (3 + szP (putO x y ++ (laidT x y ts ++ endP x))) = _
      rw [szP_app, szP_app]; simp only [endP, szP]; omega]
    exact h3

def putB : Nat → List Bn → Pt
  | _, [] => []
  | a, b :: r => b.put a r.isEmpty ++ putB (a + szP (b.put a r.isEmpty)) r
def tellB : List Bn → List Nat → List Nat
  | [], o => o
  | b :: r, o => tellB r (b.tell o)
def okB : List Bn → List Nat → Prop
  | [], _ => True
  | b :: r, o => b.ok o ∧ okB r (b.tell o)
theorem tellB_len : ∀ (bs : List Bn) (o : List Nat), o.length ≤ (tellB bs o).length
  | [], _ => Nat.le_refl _
  | b :: r, o => Nat.le_trans (b.tell_len o) (tellB_len r (b.tell o))

theorem bn_bl {l : List Nat} (lim : Nat) : ∀ {bs : List Bn} {o : List Nat}, bs ≠ [] → okB bs o → ∀ {a : Nat} {q : Pt}, AtP l a (putB a bs ++ q) →
    ((tellB bs o).length ≤ lim → InfBl l lim a o (.go (a + szP (putB a bs)) (tellB bs o))) ∧ (o.length ≤ lim → lim < (tellB bs o).length → InfBl l lim a o (.no 81))
  | [], _, h0, _, _, _, _ => absurd rfl h0
  | [b], o, _, hb, a, q, h => by
    have e : putB a [b] = b.put a true := by simp [putB]
    rw [e] at h ⊢
    obtain ⟨t1, t2⟩ := bn_bk (lim := lim) hb.1 h
    have p1 : nb l a 1 = 1 := h.1
    have q1 : a + 1 ≤ 8 * l.length := h.2.1
    exact ⟨fun h1 => .last _ _ q1 p1 _ _ (t1 h1), fun h0 h1 => .no _ _ q1 _ (t2 h0 h1)⟩
  | b :: c :: r, o, _, hb, a, q, h => by
    have e : putB a (b :: c :: r) = b.put a false ++ putB (a + szP (b.put a false)) (c :: r) := by rw [putB]; rfl
    rw [e] at h ⊢
    rw [List.append_assoc] at h
    obtain ⟨t1, t2⟩ := bn_bk (lim := lim) hb.1 h
    have p1 : nb l a 1 = 0 := h.1
    have q1 : a + 1 ≤ 8 * l.length := h.2.1
    obtain ⟨-, h⟩ := h.app
    obtain ⟨r1, r2⟩ := bn_bl lim (bs := c :: r) (o := b.tell o) (by simp) hb.2 h
    have hle := tellB_len (c :: r) (b.tell o)
    have et : tellB (b :: c :: r) o = tellB (c :: r) (b.tell o) := rfl
    rw [et, szP_app, ← Nat.add_assoc]
    refine ⟨fun h1 => .more _ _ q1 (by omega) _ _ (t1 (by omega)) _ (r1 h1), fun h0 h1 => ?_⟩
    by_cases h5 : (b.tell o).length ≤ lim
    · exact .more _ _ q1 (by omega) _ _ (t1 h5) _ (r2 h5 h1)
    · exact .no _ _ q1 _ (t2 h0 (by omega))

theorem cd_low (f : Nat → Nat) (N i : Nat) : cd f N i < 2 ^ f i := trn_low _ _
theorem okP_cons {p : Nat × Nat} {P : Pt} (h : p.1 < 2 ^ p.2) (hP : okP P) : okP (p :: P) := fun x hx => by
  rcases List.mem_cons.1 hx with rfl | hx
  · exact h
  · exact hP x hx
theorem okP_nil : okP [] := fun _ h => by simp at h
theorem tn_okP {A D : List Nat} {t : Tn} {o : List Nat} (h : t.ok A D o) : okP (t.put A D) := by
  unfold Tn.put
  split
  · exact okP_one (cd_low _ _ _)
  · rename_i h0
    obtain ⟨n1, n2, d1, d2, -⟩ := h.2 h0
    obtain ⟨-, -, -, s4⟩ := lnSym_ok t.n (by omega) n1
    obtain ⟨-, -, r3⟩ := dsSym_ok d1 d2
    exact okP_cons (cd_low _ _ _) (okP_cons s4 (okP_cons (cd_low _ _ _) (okP_cons r3 okP_nil)))
theorem tnT_okP {A D : List Nat} : ∀ {ts : List Tn} {o : List Nat}, mayT A D ts o → okP (laidT A D ts)
  | [], _, _ => okP_nil
  | _ :: r, _, h => okP_app (tn_okP h.1) (tnT_okP (ts := r) h.2)
theorem clens_small : ∀ i, lq clens i < 2 ^ 3 := fun i => by
  by_cases h : i < 19
  · have : ∀ i, i < 19 → lq clens i < 2 ^ 3 := by decide +kernel
    exact this i h
  · unfold lq
    rw [List.getD_eq_getElem?_getD, List.getElem?_eq_none (by show 19 ≤ i; omega)]
    decide
theorem putO_okP (x y : List Nat) : okP (putO x y) := by
  refine okP_cons (by decide) (okP_cons (by decide) (okP_cons (by decide) (okP_app (fun p hp => ?_) (fun p hp => ?_))))
  · obtain ⟨i, -, rfl⟩ := List.mem_map.1 hp
    exact clens_small i
  · obtain ⟨v, -, rfl⟩ := List.mem_map.1 hp
    exact cd_low _ _ _
theorem bn_okP {b : Bn} {o : List Nat} (h : b.ok o) (a : Nat) (last : Bool) : okP (b.put a last) := by
  refine okP_cons (by cases last <;> decide) (okP_cons (by show b.kind < 4; cases b <;> (show _ < 4; simp [Bn.kind])) ?_)
  cases b with
  | st bs =>
    obtain ⟨h1, h2⟩ := h
    refine okP_cons (Nat.two_pow_pos _) (okP_cons (by show bs.length < 65536; omega) (okP_cons (by show 65535 - bs.length < 65536; omega) (fun p hp => ?_)))
    obtain ⟨x, hx, rfl⟩ := List.mem_map.1 hp
    exact h2 x hx
  | fx ts => exact okP_app (tnT_okP (o := o) h) (okP_one (cd_low _ _ _))
  | dy x y ts => exact okP_app (putO_okP x y) (okP_app (tnT_okP (o := o) h.2.2.2.2.2.2) (okP_one (cd_low _ _ _)))
theorem bnB_okP : ∀ {bs : List Bn} {o : List Nat}, okB bs o → ∀ a, okP (putB a bs)
  | [], _, _, _ => okP_nil
  | _ :: r, _, h, _ => okP_app (bn_okP h.1 _ _) (bnB_okP (bs := r) h.2 _)

/-- What was laid is told, whatever is behind; with a lesser limit it is too much. -/
theorem laid_infl {bs : List Bn} (h0 : bs ≠ []) (h : okB bs []) (m : List Nat) {lim : Nat} (hl : lim ≤ 524288) :
    ((tellB bs []).length ≤ lim → Infl (bytP (putB 0 bs) ++ m) lim (tellB bs []) (bytP (putB 0 bs)).length 0) ∧ (lim < (tellB bs []).length → Infl (bytP (putB 0 bs) ++ m) lim [] 0 81) := by
  have ha := atP_all (bnB_okP h 0) m
  rw [← List.append_nil (putB 0 bs)] at ha
  obtain ⟨t1, t2⟩ := bn_bl lim h0 h ha
  rw [List.append_nil] at t1 t2
  refine ⟨fun h1 => ?_, fun h1 => .no lim 81 rfl hl (t2 (Nat.zero_le _) h1)⟩
  have := Infl.go lim _ _ rfl hl (t1 h1)
  rw [bytP_len]
  rw [show (szP (putB 0 bs) + 7) / 8 = alN (0 + szP (putB 0 bs)) / 8 by unfold alN; omega]
  exact this

end Go.Proofs.Ytdcmalbbijchiaa

/- inflate: the document's tables of lengths and distances, and the statement's symbols of them. -/
namespace Go.Proofs.Ytdcmalbbijchiaa
open Go.RowKit Go.Maps

theorem ln_step : ∀ k, k < 285 → 257 ≤ k → k ≠ 284 → lnBase (k + 1) = lnBase k + 2 ^ lnBits k := by decide +kernel
theorem ln_low : ∀ k, k < 265 → 257 ≤ k → lnBits k = 0 := by decide +kernel
theorem ln_high : ∀ k, k < 285 → 265 ≤ k → lnBits k = (k - 261) / 4 := by decide +kernel
theorem ln_small : ∀ k, k < 286 → lnBase k ≤ 258 ∧ lnBits k ≤ 5 := by decide +kernel
theorem ln_285 : lnBase 285 = 258 ∧ lnBits 285 = 0 ∧ lnBase 257 = 3 := by decide +kernel

set_option maxHeartbeats 2000000 in
theorem base_any (s : Nat) (w : World) (h1 : 257 ≤ s) (h2 : s ≤ 285) : Calls Try.prog 34 #[.int .i64 (s : Int)] w fun e w' => e = .returned (.tuple #[.int .i64 (lnBase s : Int), .int .i64 (lnBits s : Int)]) ∧ w' = w := by
  go_enter Try.func34, Try.ntmps34
  by_cases h85 : s = 285
  · subst h85
    obtain ⟨e1, e2, -⟩ := ln_285
    rw [e1, e2]
    go_wp2
    go_ret2
    exact ⟨rfl, rfl⟩
  · have d0 : ((s : Int) == 285) = false := by simp; omega
    have hs : s ≤ 284 := by omega
    obtain ⟨-, -, e3⟩ := ln_285
    go_wp2
    go_loopw [4, 5] (fun nv kv wr => ∃ k : Nat, kv = .int .i64 (k : Int) ∧ nv = .int .i64 (lnBase k : Int) ∧ 257 ≤ k ∧ k ≤ s ∧ wr = w) (fun _ kv _ => s - (intOf kv).toNat)
    case atStart => exact ⟨257, rfl, by rw [e3]; rfl, Nat.le_refl _, h1, rfl⟩
    case round =>
      obtain ⟨k, rfl, rfl, hk1, hk2, rfl⟩ := hrel
      obtain ⟨hb, hm⟩ := ln_small k (by omega)
      have hlo := ln_low k
      have hhi := ln_high k (by omega)
      have hst := ln_step k (by omega) hk1
      obtain ⟨m, hmm⟩ : ∃ m, lnBits k = m := ⟨_, rfl⟩
      obtain ⟨n, hn⟩ : ∃ n, lnBase k = n := ⟨_, rfl⟩
      rw [hmm] at hm hlo hhi hst
      rw [hn] at hb hst ⊢
      by_cases hks : k = s
      · subst hks
        have d2 : ((k : Int) == (k : Int)) = true := by simp
        by_cases hkb : 264 < k
        · have d1 : decide ((k : Int) > 264) = true := by simp; omega
          have hq : m = (k - 261) / 4 := hhi hkb
          have hq1 : ((k : Int) - 261) / 4 = (m : Int) := by omega
          have hq2 : ((k : Int) - 261).tdiv 4 = (m : Int) := by rw [Int.tdiv_eq_ediv_of_nonneg (by omega)]; exact hq1
          have Hm := Lib.hid hmm
          have Hn := Lib.hid hn
          clear hq hmm hn hlo hhi hst
          go_wp2
          go_ret2
          exact ⟨by rw [Hm.out, Hn.out]; rfl, rfl⟩
        · have d1 : decide ((k : Int) > 264) = false := by simp; omega
          obtain rfl : m = 0 := hlo (by omega) hk1
          have Hm := Lib.hid hmm
          have Hn := Lib.hid hn
          clear hmm hn hlo hhi hst
          go_wp2
          go_ret2
          exact ⟨by rw [Hm.out, Hn.out]; rfl, rfl⟩
      · have d2 : ((k : Int) == (s : Int)) = false := by simp; omega
        have hst := hst (by omega)
        obtain ⟨z, hz⟩ : ∃ z, 2 ^ m = z := ⟨_, rfl⟩
        have hz1 : (2 : Int) ^ m = (z : Int) := by rw [← hz]; simp
        have hzb : z ≤ 32 := by rw [← hz]; exact Nat.pow_le_pow_right (n := 2) (j := 5) (by decide) hm
        rw [hz] at hst
        have Hst := Lib.hid hst
        by_cases hkb : 264 < k
        · have d1 : decide ((k : Int) > 264) = true := by simp; omega
          have hq : m = (k - 261) / 4 := hhi hkb
          have hq1 : ((k : Int) - 261) / 4 = (m : Int) := by omega
          have hq2 : ((k : Int) - 261).tdiv 4 = (m : Int) := by rw [Int.tdiv_eq_ediv_of_nonneg (by omega)]; exact hq1
          clear hq hmm hn hlo hhi hst hz
          go_wp2
          go_roundw
          case rel => exact ⟨k + 1, by go_num, by rw [Hst.out]; go_num, by omega, by omega, trivial⟩
          case measure => simp [intOf]; omega
        · have d1 : decide ((k : Int) > 264) = false := by simp; omega
          obtain rfl : m = 0 := hlo (by omega) hk1
          clear hmm hn hlo hhi hst
          go_wp2
          go_roundw
          case rel => exact ⟨k + 1, by go_num, by rw [Hst.out, ← hz]; go_num, by omega, by omega, trivial⟩
          case measure => simp [intOf]; omega

theorem ds_low : ∀ k, k < 4 → dsBits k = 0 := by decide +kernel
theorem ds_high : ∀ k, k < 30 → 4 ≤ k → dsBits k = (k - 2) / 2 := by decide +kernel
theorem ds_small : ∀ k, k < 30 → dsBase k ≤ 32768 ∧ dsBits k ≤ 13 := by decide +kernel
theorem ds_0 : dsBase 0 = 1 := by decide +kernel

set_option maxHeartbeats 2000000 in
theorem far_any (s : Nat) (w : World) (h2 : s ≤ 29) : Calls Try.prog 35 #[.int .i64 (s : Int)] w fun e w' => e = .returned (.tuple #[.int .i64 (dsBase s : Int), .int .i64 (dsBits s : Int)]) ∧ w' = w := by
  have e3 := ds_0
  go_enter Try.func35, Try.ntmps35
  go_wp2
  go_loopw [4, 5] (fun nv kv wr => ∃ k : Nat, kv = .int .i64 (k : Int) ∧ nv = .int .i64 (dsBase k : Int) ∧ k ≤ s ∧ wr = w) (fun _ kv _ => s - (intOf kv).toNat)
  case atStart => exact ⟨0, rfl, by rw [e3]; rfl, Nat.zero_le _, rfl⟩
  case round =>
    obtain ⟨k, rfl, rfl, hk2, rfl⟩ := hrel
    obtain ⟨hb, hm⟩ := ds_small k (by omega)
    have hlo := ds_low k
    have hhi := ds_high k (by omega)
    have hst := ds_step k (by omega)
    obtain ⟨m, hmm⟩ : ∃ m, dsBits k = m := ⟨_, rfl⟩
    obtain ⟨n, hn⟩ : ∃ n, dsBase k = n := ⟨_, rfl⟩
    rw [hmm] at hm hlo hhi hst
    rw [hn] at hb hst ⊢
    by_cases hks : k = s
    · subst hks
      have d2 : ((k : Int) == (k : Int)) = true := by simp
      by_cases hkb : 3 < k
      · have d1 : decide ((k : Int) > 3) = true := by simp; omega
        have hq : m = (k - 2) / 2 := hhi hkb
        have hq1 : ((k : Int) - 2) / 2 = (m : Int) := by omega
        have hq2 : ((k : Int) - 2).tdiv 2 = (m : Int) := by rw [Int.tdiv_eq_ediv_of_nonneg (by omega)]; exact hq1
        have Hm := Lib.hid hmm
        have Hn := Lib.hid hn
        clear hq hmm hn hlo hhi hst e3
        go_wp2
        go_ret2
        exact ⟨by rw [Hm.out, Hn.out]; rfl, rfl⟩
      · have d1 : decide ((k : Int) > 3) = false := by simp; omega
        obtain rfl : m = 0 := hlo (by omega)
        have Hm := Lib.hid hmm
        have Hn := Lib.hid hn
        clear hmm hn hlo hhi hst e3
        go_wp2
        go_ret2
        exact ⟨by rw [Hm.out, Hn.out]; rfl, rfl⟩
    · have d2 : ((k : Int) == (s : Int)) = false := by simp; omega
      obtain ⟨z, hz⟩ : ∃ z, 2 ^ m = z := ⟨_, rfl⟩
      have hz1 : (2 : Int) ^ m = (z : Int) := by rw [← hz]; simp
      have hzb : z ≤ 8192 := by rw [← hz]; exact Nat.pow_le_pow_right (n := 2) (j := 13) (by decide) hm
      rw [hz] at hst
      have Hst := Lib.hid hst
      by_cases hkb : 3 < k
      · have d1 : decide ((k : Int) > 3) = true := by simp; omega
        have hq : m = (k - 2) / 2 := hhi hkb
        have hq1 : ((k : Int) - 2) / 2 = (m : Int) := by omega
        have hq2 : ((k : Int) - 2).tdiv 2 = (m : Int) := by rw [Int.tdiv_eq_ediv_of_nonneg (by omega)]; exact hq1
        clear hq hmm hn hlo hhi hst hz e3
        go_wp2
        go_roundw
        case rel => exact ⟨k + 1, by go_num, by rw [Hst.out]; go_num, by omega, trivial⟩
        case measure => simp [intOf]; omega
      · have d1 : decide ((k : Int) > 3) = false := by simp; omega
        obtain rfl : m = 0 := hlo (by omega)
        clear hmm hn hlo hhi hst e3
        go_wp2
        go_roundw
        case rel => exact ⟨k + 1, by go_num, by rw [Hst.out, ← hz]; go_num, by omega, trivial⟩
        case measure => simp [intOf]; omega

theorem lnF_skip {n : Nat} : ∀ {k : Nat}, ¬ (lnBase (257 + k) ≤ n ∧ (257 + k ≠ 285 ∨ n = 258)) → lnF n (k + 1) = lnF n k := fun h => if_neg h
theorem lnF_hit {n : Nat} : ∀ {k : Nat}, (lnBase (257 + k) ≤ n ∧ (257 + k ≠ 285 ∨ n = 258)) → lnF n (k + 1) = 257 + k := fun h => if_pos h
theorem dsF_skip {d k : Nat} (h : ¬ dsBase k ≤ d) : dsF d (k + 1) = dsF d k := if_neg h
theorem dsF_hit {d k : Nat} (h : dsBase k ≤ d) : dsF d (k + 1) = k := if_pos h

set_option maxHeartbeats 2000000 in
theorem distance_any (d : Nat) (w : World) (h1 : 1 ≤ d) (h2 : d ≤ 32768) : Calls Try.prog 19 #[.int .i64 (d : Int)] w fun e w' => e = .returned (.tuple #[.int .i64 (dsSym d : Int), .int .i64 ((d - dsBase (dsSym d) : Nat) : Int), .int .i64 (dsBits (dsSym d) : Int)]) ∧ w' = w := by
  go_enter Try.func19, Try.ntmps19
  go_wp2
  go_loopw [5] (fun kv wr => ∃ k : Nat, k < 30 ∧ kv = .int .i64 (k : Int) ∧ Hid (dsF d (k + 1) = dsSym d) ∧ wr = w) (fun kv _ => (intOf kv).toNat)
  case atStart => exact ⟨29, by omega, rfl, Lib.hid rfl, rfl⟩
  case round =>
    obtain ⟨k, hk, rfl, Hk, rfl⟩ := hrel
    obtain ⟨hb, hm⟩ := ds_small k hk
    have d0 : decide ((k : Int) ≥ 0) = true := by simp
    go_wp2_with fail
    refine Calls.mono (far_any k _ (by omega)) ?_
    rintro _ w1 ⟨rfl, rfl⟩
    obtain ⟨m, hmm⟩ : ∃ m, dsBits k = m := ⟨_, rfl⟩
    obtain ⟨n, hn⟩ : ∃ n, dsBase k = n := ⟨_, rfl⟩
    rw [hmm] at hm ⊢
    rw [hn] at hb ⊢
    have Hm := Lib.hid hmm
    have Hn := Lib.hid hn
    clear hmm hn
    by_cases hle : n ≤ d
    · have d1 : decide ((n : Int) ≤ (d : Int)) = true := by simp; omega
      have hx : IntKind.i64.wrap ((d : Int) - (n : Int)) = ((d - n : Nat) : Int) := by rw [IntWalk.i64_in _ (by omega)]; omega
      have hx' : ((d : Int) - (n : Int)) = ((d - n : Nat) : Int) := by omega
      go_wp2
      go_ret3
      have e : dsSym d = k := by rw [← Hk.out]; exact dsF_hit (by rw [Hn.out]; exact hle)
      rw [e, Hm.out, Hn.out]
      exact ⟨rfl, rfl⟩
    · have d1 : decide ((n : Int) ≤ (d : Int)) = false := by simp; omega
      have hk0 : k ≠ 0 := by
        rintro rfl
        have := Hn.out
        rw [ds_0] at this
        omega
      obtain ⟨j, rfl⟩ : ∃ j, k = j + 1 := ⟨k - 1, by omega⟩
      go_wp2
      go_roundw
      case rel => exact ⟨j, by omega, by go_num, Lib.hid (by rw [← Hk.out]; exact (dsF_skip (by rw [Hn.out]; exact hle)).symm), trivial⟩
      case measure => simp [intOf]

end Go.Proofs.Ytdcmalbbijchiaa

/- inflate: the statement's symbol of a length, and word of a code. -/
namespace Go.Proofs.Ytdcmalbbijchiaa
open Go.RowKit Go.Maps

set_option maxHeartbeats 4000000 in
theorem symbol_any (n : Nat) (w : World) (h1 : 3 ≤ n) (h2 : n ≤ 258) : Calls Try.prog 18 #[.int .i64 (n : Int)] w fun e w' => e = .returned (.tuple #[.int .i64 (lnSym n : Int), .int .i64 ((n - lnBase (lnSym n) : Nat) : Int), .int .i64 (lnBits (lnSym n) : Int)]) ∧ w' = w := by
  go_enter Try.func18, Try.ntmps18
  go_wp2
  go_loopw [5] (fun kv wr => ∃ k s : Nat, k < 29 ∧ s = 257 + k ∧ kv = .int .i64 (s : Int) ∧ Hid (lnF n (k + 1) = lnSym n) ∧ wr = w) (fun kv _ => (intOf kv).toNat)
  case atStart => exact ⟨28, 285, by omega, rfl, rfl, Lib.hid rfl, rfl⟩
  case round =>
    obtain ⟨k, s, hk, hs, rfl, Hk, rfl⟩ := hrel
    have Hs := Lib.hid hs
    have s1 : 257 ≤ s := by omega
    have s2 : s ≤ 285 := by omega
    clear hs
    obtain ⟨hb, hm⟩ := ln_small s (by omega)
    have d0 : decide ((s : Int) ≥ 257) = true := by simp; omega
    go_wp2_with fail
    refine Calls.mono (base_any s _ s1 s2) ?_
    rintro _ w1 ⟨rfl, rfl⟩
    obtain ⟨m, hmm⟩ : ∃ m, lnBits s = m := ⟨_, rfl⟩
    obtain ⟨b, hn⟩ : ∃ b, lnBase s = b := ⟨_, rfl⟩
    rw [hmm] at hm ⊢
    rw [hn] at hb ⊢
    have Hm := Lib.hid hmm
    have Hn := Lib.hid hn
    clear hmm hn
    have yes : b ≤ n → (s ≠ 285 ∨ n = 258) → lnSym n = s := fun h3 h4 => by
      rw [← Hk.out, Hs.out]
      exact lnF_hit (by rw [← Hs.out, Hn.out]; exact ⟨h3, h4⟩)
    have no : ¬ (b ≤ n ∧ (s ≠ 285 ∨ n = 258)) → k ≠ 0 ∧ lnF n (k - 1 + 1) = lnSym n := fun h3 => by
      have h5 : k ≠ 0 := by
        rintro rfl
        have e := Hs.out
        obtain ⟨-, -, e3⟩ := ln_285
        rw [Nat.add_zero] at e
        rw [e, e3] at Hn
        have := Hn.out
        exact h3 ⟨by omega, .inl (by omega)⟩
      refine ⟨h5, ?_⟩
      rw [← Hk.out, show k - 1 + 1 = k by omega]
      exact (lnF_skip (by rw [← Hs.out, Hn.out]; exact h3)).symm
    have Hyes := Lib.hid yes
    have Hno := Lib.hid no
    clear yes no
    by_cases hle : b ≤ n
    · have d1 : decide ((b : Int) ≤ (n : Int)) = true := by simp; omega
      have hx : IntKind.i64.wrap ((n : Int) - (b : Int)) = ((n - b : Nat) : Int) := by rw [IntWalk.i64_in _ (by omega)]; omega
      have hx' : ((n : Int) - (b : Int)) = ((n - b : Nat) : Int) := by omega
      by_cases h85 : s = 285
      · have d2 : ((s : Int) != 285) = false := by simp; omega
        by_cases h258 : n = 258
        · have d3 : ((n : Int) == 258) = true := by simp; omega
          have e := Lib.hid (Hyes.out hle (.inr h258))
          clear h85 h258
          go_wp2
          go_ret3
          rw [e.out, Hm.out, Hn.out]
          exact ⟨rfl, rfl⟩
        · have d3 : ((n : Int) == 258) = false := by simp; omega
          obtain ⟨k0, e⟩ := Hno.out (by omega)
          have He := Lib.hid e
          have Hk1 := Lib.hid (show s - 1 = 257 + (k - 1) by have := Hs.out; omega)
          have hs1 : ((s : Int) - 1) = ((s - 1 : Nat) : Int) := by omega
          clear h85 e
          go_wp2
          go_roundw
          case rel => exact ⟨k - 1, s - 1, by omega, Hk1.out, by first | rfl | (rw [← hs1]) | go_num, He, trivial⟩
          case measure => simp [intOf]; omega
      · have d2 : ((s : Int) != 285) = true := by simp; omega
        have e := Lib.hid (Hyes.out hle (.inl h85))
        go_wp2
        go_ret3
        rw [e.out, Hm.out, Hn.out]
        exact ⟨rfl, rfl⟩
    · have d1 : decide ((b : Int) ≤ (n : Int)) = false := by simp; omega
      obtain ⟨k0, e⟩ := Hno.out (by omega)
      have He := Lib.hid e
      have Hk1 := Lib.hid (show s - 1 = 257 + (k - 1) by have := Hs.out; omega)
      have hs1 : ((s : Int) - 1) = ((s - 1 : Nat) : Int) := by omega
      clear e
      go_wp2
      go_roundw
      case rel => exact ⟨k - 1, s - 1, by omega, Hk1.out, by first | rfl | (rw [← hs1]) | go_num, He, trivial⟩
      case measure => simp [intOf]; omega

end Go.Proofs.Ytdcmalbbijchiaa

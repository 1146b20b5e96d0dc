/- The order of rows that the program finds: orders that are extended by closures. -/
import Derived.Test.YtapmeooffmonmaaIsb
import Derived.Test.YtapmeooffmonmaaIse
import Derived.Shelf.Abstract
namespace Go.Proofs.Ytapmeooffmonmaa
open Go.RowKit

/-- What lies ahead in serial rows is serial. -/
theorem serS_pre {rows : List (List Bool)} {o q : List Int} (h : serS (takeS rows (o ++ q)) = true) : serS (takeS rows o) = true := by
  rw [serS_iff] at h ⊢
  intro k hk j m i hjm hmi hi hj hii
  have hl : (takeS rows (o ++ q)).length = o.length + q.length := by rw [takeS_len, List.length_append]
  have hlo : (takeS rows o).length = o.length := takeS_len _ _
  have hb : ∀ x, x < o.length → bitS (takeS rows (o ++ q)) x k = bitS (takeS rows o) x k := by
    intro x hx
    unfold bitS
    congr 1
    rw [List.getD_eq_getElem?_getD, List.getD_eq_getElem?_getD, takeS, takeS, List.map_append, List.getElem?_append_left (by simpa using hx)]
  have h1 := h k hk j m i hjm hmi (by omega)
  rw [hb j (by omega), hb m (by omega), hb i (by omega)] at h1
  exact h1 hj hii
/-- From rows that are not serial nothing is found. -/
theorem srchS_cut {rows : List (List Bool)} {d : Nat} {o : List Int} (hl : d + o.length = rows.length) (hd : o.Nodup) (hr : ∀ x ∈ o, 0 ≤ x ∧ x < rows.length) (h : serS (takeS rows o) = false) : srchS rows d o = [] := by
  refine Classical.byContradiction fun hne => ?_
  obtain ⟨⟨q, hq⟩, _, hs⟩ := srchS_sound hl hd hr hne
  rw [hq] at hs
  rw [serS_pre hs] at h
  cases h
theorem tryS_stay {f : Int → List Int} {o out : List Int} {k : Nat} (h : tryS f o (k + 1) = out) (hne : out ≠ []) : ∀ {m : Nat}, k + 1 ≤ m → tryS f o m = out
  | 0, hm => by omega
  | m + 1, hm => by
    by_cases hmk : k + 1 ≤ m
    · have h0 := tryS_stay h hne hmk
      show (if tryS f o m = [] then _ else tryS f o m) = out
      rw [if_neg (by rw [h0]; exact hne), h0]
    · obtain rfl : m = k := by omega
      exact h
/-- A function of the program that adds d rows, and what it has captured. -/
def ExtV (w : World) (B : Nat) (A : Option Addr) (n ca : Nat) : Nat → FuncId → Array Value → Prop
  | 0, f, c => f = 50 ∧ c = #[]
  | d + 1, f, c => f = 62 ∧ ∃ b1 b2 f2 c2, c = #[.pointer (some ⟨b1, 0, none⟩), .pointer (some ⟨b2, 0, none⟩)] ∧ b1 < B ∧ b2 < B ∧ w.cell? ⟨b1, 0, none⟩ = some (.slice A n ca) ∧ w.cell? ⟨b2, 0, none⟩ = some (.func (.func f2) #[] c2) ∧ ExtV w B A n ca d f2 c2
theorem ExtV.keep {w w2 : World} {B : Nat} {A : Option Addr} {n ca : Nat} (hk : ∀ b o, b < B → w2.cell? ⟨b, o, none⟩ = w.cell? ⟨b, o, none⟩) : ∀ {d : Nat} {f : FuncId} {c : Array Value}, ExtV w B A n ca d f c → ExtV w2 B A n ca d f c
  | 0, _, _, h => h
  | d + 1, _, _, h => by
    obtain ⟨h0, b1, b2, f2, c2, h1, h2, h3, h4, h5, h6⟩ := h
    exact ⟨h0, b1, b2, f2, c2, h1, h2, h3, (hk _ _ h2).trans h4, (hk _ _ h3).trans h5, ExtV.keep hk h6⟩
theorem ExtV.more {w : World} {B B2 : Nat} {A : Option Addr} {n ca : Nat} (hB : B ≤ B2) : ∀ {d : Nat} {f : FuncId} {c : Array Value}, ExtV w B A n ca d f c → ExtV w B2 A n ca d f c
  | 0, _, _, h => h
  | d + 1, _, _, h => by
    obtain ⟨h0, b1, b2, f2, c2, h1, h2, h3, h4, h5, h6⟩ := h
    exact ⟨h0, b1, b2, f2, c2, h1, by omega, by omega, h4, h5, ExtV.more hB h6⟩
theorem ExtV.step {w w2 : World} {A : Option Addr} {n ca d : Nat} {f : FuncId} {c : Array Value} (h : ExtV w w.heap.size A n ca d f c) (hb : Below w.heap.size w w2) : ExtV w2 w2.heap.size A n ca d f c :=
  (h.keep (below_cell hb)).more hb.size
theorem ExtV.enters {w : World} {B : Nat} {A : Option Addr} {n ca : Nat} : ∀ {d : Nat} {f : FuncId} {c : Array Value}, ExtV w B A n ca d f c → ∀ (args : Array Value) (W : World), (callFunc f args).run Try.prog W = .ok (.enter f args) W
  | 0, _, _, h => by
    obtain ⟨rfl, _⟩ := h
    exact enters_of Try.func50 (by kernel_rfl) rfl
  | d + 1, _, _, h => by
    obtain ⟨rfl, _⟩ := h
    exact enters_of Try.func62 (by kernel_rfl) rfl
/-- A call returned an order and whether there is one; the order is the call's own, or the one that was handed in. -/
def OrdE (w : World) (D : Option Addr) (m cd d : Nat) (out : List Int) (ok : Bool) (e : Ending) (w2 : World) : Prop :=
  ∃ A c, e = .returned (.tuple #[.slice A out.length c, .bool ok]) ∧ Below w.heap.size w w2 ∧ (d = 0 ∧ A = D ∧ out.length = m ∧ c = cd ∨ w2.ownsRow w.heap.size 3 1 (.slice A out.length c) out.length (cellsI out))
set_option maxHeartbeats 8000000 in
set_option maxRecDepth 100000 in
theorem ext_any (A : Option Addr) (ca : Nat) (rows : List (List Bool)) (hok : okS rows = true) : ∀ (d : Nat) (o : List Int) (D : Option Addr) (cd : Nat) (w : World) (f : FuncId) (c : Array Value), d + o.length = rows.length → o.Nodup → (∀ x ∈ o, 0 ≤ x ∧ x < rows.length) → (d = 0 → serS (takeS rows o) = true) →
    Nest encB w w.heap.size A rows.length rows → Reads w w.heap.size 1 D o.length (cellsI o) → ExtV w w.heap.size A rows.length ca d f c → Calls Try.prog f (#[.slice D o.length cd] ++ c) w (OrdE w D o.length cd d (srchS rows d o) (decide (srchS rows d o ≠ []))) := by
  obtain ⟨h5, hn1, hn5⟩ := okS_parts hok
  have h1000 : ∀ r ∈ rows, r.length ≤ 1000 := fun r hr => by have := h5 r hr; omega
  intro d
  induction d with
  | zero =>
    intro o D cd w f c hd _ _ hse _ _ hE
    obtain ⟨rfl, rfl⟩ := hE
    have hs : srchS rows 0 o = o := by
      show (if serS (takeS rows o) = true then o else []) = o
      rw [if_pos (hse rfl)]
    rw [hs]
    have hne : decide (o ≠ []) = true := decide_eq_true fun e => by rw [e] at hd; simp at hd; omega
    rw [hne]
    clear hs hne hse hd
    show Calls Try.prog 50 #[.slice D o.length cd] w _
    go_enter Try.func50, Try.ntmps50
    go_wp2_with fail
    go_ret2
    exact ⟨D, cd, rfl, Below.refl _ _, .inl ⟨rfl, rfl, rfl, rfl⟩⟩
  | succ d ih =>
    intro o D cd w f c hd hnd hin _ hr ho hE
    obtain ⟨rfl, b1, b2, f2, c2, rfl, hb1, hb2, q1, q2, hE2⟩ := hE
    obtain ⟨i0, hi0, hz0, hz1, hz2⟩ := info_parts infoInt
    have hs : srchS rows (d + 1) o = tryS (fun k => srchS rows d (o ++ [k])) o rows.length := rfl
    rw [hs]
    obtain ⟨f, hf⟩ : ∃ f, f = fun k => srchS rows d (o ++ [k]) := ⟨_, rfl⟩
    rw [← hf]
    have hol : o.length ≤ 5 := by omega
    have H := Lib.hid (And.intro ih (And.intro hin (And.intro hr (And.intro ho (And.intro hf (And.intro hd (And.intro hnd hE2)))))))
    clear ih hin hr ho hf hs hd hnd hE2
    show Calls Try.prog 62 #[.slice D o.length cd, .pointer (some ⟨b1, 0, none⟩), .pointer (some ⟨b2, 0, none⟩)] w _
    go_enter Try.func62, Try.ntmps62
    go_wp2_with fail
    have HQ := Lib.hid (And.intro q1 q2)
    clear q1 q2
    go_loopw [12] (fun c wr => ∃ k : Nat, k ≤ rows.length ∧ c = .int .i64 k ∧ Below w.heap.size w wr ∧ tryS f o k = []) (fun c _ => rows.length - (intOf c).toNat)
    case atStart => exact ⟨0, Nat.zero_le _, rfl, Below.refl _ _, rfl⟩
    case round =>
      obtain ⟨k, hk, rfl, hbl, htr⟩ := hrel
      have hsz := hbl.size
      by_cases hlt : k < rows.length
      · have hki : (k : Int) < (rows.length : Int) := by omega
        have hP := containsIs_any D cd o (k : Int) wr (H.out.2.2.2.1.step hbl) (by omega)
        have hnx : tryS f o (k + 1) = if (k : Int) ∈ o then [] else f k := by
          show (if tryS f o k = [] then (if (k : Int) ∈ o then [] else f k) else tryS f o k) = _
          rw [if_pos htr]
        by_cases hm : (k : Int) ∈ o
        · rw [decide_eq_true hm] at hP
          rw [if_pos hm] at hnx
          have HX := Lib.hid (And.intro hbl (And.intro hP hnx))
          clear hbl hP hnx hm htr
          go_wp2_with (go_at_call 53; go_must (refine HX.out.2.1.mono ?_); rintro e w2 ⟨rfl, rfl⟩)
          go_roundw
          case rel => exact ⟨k + 1, by omega, by go_num, HX.out.1, HX.out.2.2⟩
          case measure => simp [intOf]; omega
        · rw [decide_eq_false hm] at hP
          rw [if_neg hm] at hnx
          obtain ⟨xs, hxs⟩ : ∃ xs, xs = o ++ [(k : Int)] := ⟨_, rfl⟩
          obtain ⟨out, hout⟩ : ∃ out, out = srchS rows d xs := ⟨_, rfl⟩
          have hfk : f k = out := by rw [hout, hxs, H.out.2.2.2.2.1]
          rw [hfk] at hnx
          have hxl : xs.length = o.length + 1 := by rw [hxs]; simp
          have hxd : xs.Nodup := by
            rw [hxs, List.nodup_append]
            refine ⟨H.out.2.2.2.2.2.2.1, by simp, fun a ha b hb => ?_⟩
            rw [List.mem_singleton.1 hb]
            exact fun e => hm (e ▸ ha)
          have hxin : ∀ x ∈ xs, 0 ≤ x ∧ x < (rows.length : Int) := fun x hx => by
            rw [hxs] at hx
            rcases List.mem_append.1 hx with h | h
            · exact H.out.2.1 x h
            · rw [List.mem_singleton.1 h]; omega
          have hdx : d + xs.length = rows.length := by have := H.out.2.2.2.2.2.1; omega
          obtain ⟨s, hsx⟩ : ∃ s, s = serS (takeS rows xs) := ⟨_, rfl⟩
          obtain ⟨T, hT⟩ : ∃ T, T = takeS rows xs := ⟨_, rfl⟩
          have hT5 : ∀ r ∈ T, r.length = 5 := by rw [hT]; exact takeS_five h5 hxin
          have hTl : T.length ≤ 5 := by rw [hT, takeS_len]; omega
          have hC := cloneI_any D cd o wr (H.out.2.2.2.1.step hbl) (by omega)
          have hTk : ∀ (D2 : Option Addr) (c2 : Nat) (W : World), Below wr.heap.size wr W → Reads W W.heap.size 1 D2 xs.length (cellsI xs) → Calls Try.prog 54 #[.slice A rows.length ca, .slice D2 xs.length c2] W (TabS W T) := fun D2 c2 W hW hR => by
            rw [hT]
            exact iTaken_any A D2 ca c2 rows xs W (H.out.2.2.1.step (below_step hbl hW)) hR (by omega) (by omega) h1000 hxin
          have hIH : s = true → ∀ (D2 : Option Addr) (cd2 : Nat) (W : World), Below wr.heap.size wr W → Reads W W.heap.size 1 D2 xs.length (cellsI xs) → Calls Try.prog f2 (#[.slice D2 xs.length cd2] ++ c2) W (OrdE W D2 xs.length cd2 d out (decide (out ≠ []))) := fun hs D2 cd2 W hW hR => by
            rw [hout]
            exact H.out.1 xs D2 cd2 W f2 c2 hdx hxd hxin (fun _ => by rw [← hsx]; exact hs) (H.out.2.2.1.step (below_step hbl hW)) hR (H.out.2.2.2.2.2.2.2.step (below_step hbl hW))
          have hcut : s = false → out = [] := fun hs => by
            rw [hout]
            exact srchS_cut hdx hxd hxin (by rw [← hsx]; exact hs)
          rw [hsx, ← hT] at hIH hcut
          rw [← hT] at hsx
          have hd0 : d = 0 → serS T = true → out = xs := fun h0 hs => by
            subst h0
            rw [hout]
            show (if serS (takeS rows xs) = true then xs else []) = xs
            rw [if_pos (by rw [← hT]; exact hs)]
          have hcf := H.out.2.2.2.2.2.2.2.enters
          have g1 := (below_cell hbl b1 0 hb1).trans HQ.out.1
          have g2 := (below_cell hbl b2 0 hb2).trans HQ.out.2
          have hlb1 : b1 < wr.heap.size := by omega
          have hlb2 : b2 < wr.heap.size := by omega
          have hxl5 : xs.length ≤ 5 := by omega
          have HX := Lib.hid (And.intro hbl (And.intro hP (And.intro hnx (And.intro hC (And.intro hTk (And.intro hIH (And.intro hcut (And.intro hd0 (And.intro hxl (And.intro hxs hT5))))))))))
          clear hbl hP hnx hm htr hC hTk hIH hcut hd0 hxl hxs hout hfk hxd hxin hdx hsx hT
          cases hse : serS T
          · have HSE := Lib.hid hse
            clear hse
            go_wp2_with (first
              | (go_at_call 53; go_must (refine HX.out.2.1.mono ?_); rintro e w2 ⟨rfl, rfl⟩)
              | (go_at_call 63; go_must (refine HX.out.2.2.2.1.mono ?_); rintro e w5 ⟨v5, rfl, b5, o5⟩
                 have hs5 := b5.size
                 have K5 := Lib.hid (And.intro b5 o5)
                 clear b5 o5)
              | (at_builtin
                 go_must (refine wpList_append_reads _ rfl (.tmp 19) (.tmp 21) _ rfl wr.heap.size 3 i0 _ 1 8 Try.underlying28 hi0 hz0 hz1 hz2 rfl (by omega) v5 o.length (cellsI o) rfl (K5.out.2.alloc _) (w5.heap.size + 1) _ 1 1 (cellsI [(k : Int)]) rfl (reads_int (by omega)) (cellsI_one _) (by simp only [maxLen]; omega) (by omega) (by simp; omega) ?_)
                 intro v6 w6 hown6 hg6 hat6
                 have b6 : Below wr.heap.size wr w6 := (K5.out.1.alloc hs5 _).trans (app_below0 (K5.out.2.alloc _) (Nat.le_refl _) (by simp; omega) hg6)
                 rw [show cellsI o ++ cellsI [(k : Int)] = cellsI xs from by rw [HX.out.2.2.2.2.2.2.2.2.2.1]; simp [cellsI], show o.length + 1 = xs.length from HX.out.2.2.2.2.2.2.2.2.1.symm] at hown6
                 obtain ⟨A6, c6, hv6, _, hr6⟩ := own_slice hown6
                 subst hv6
                 have hs6 := b6.size
                 have q1 := (below_cell b6 b1 0 hlb1).trans g1
                 have K6 := Lib.hid (And.intro b6 (And.intro hown6 (And.intro (HX.out.2.2.2.2.1 A6 c6 w6 b6 hr6) hr6)))
                 clear b6 hown6 hg6 hat6 hr6)
              | (go_at_call 54; go_must (refine K6.out.2.2.1.mono ?_); rintro e w7 ⟨v7, vs7, rfl, k7, o7⟩
                 obtain ⟨A7, c7, hv7, _, hn7⟩ := o7.nest
                 subst hv7
                 have hS := iSer_any A7 c7 T w7 hn7 (by omega) HX.out.2.2.2.2.2.2.2.2.2.2
                 rw [HSE.out] at hS
                 have b7 := below_step K6.out.1 k7
                 have q2 := (below_cell b7 b2 0 hlb2).trans g2
                 have K7 := Lib.hid (And.intro k7 (And.intro b7 hS))
                 clear k7 b7 hS hn7 o7)
              | (go_at_call 47; go_must (refine K7.out.2.2.mono ?_); rintro e w8 ⟨rfl, rfl⟩))
            go_roundw
            case rel => exact ⟨k + 1, by omega, by go_num, below_step HX.out.1 K7.out.2.1, by rw [HX.out.2.2.1]; exact HX.out.2.2.2.2.2.2.1 HSE.out⟩
            case measure => simp [intOf]; omega
          · have HSE := Lib.hid hse
            clear hse
            have hbo := decide_eq_true_iff (p := out ≠ [])
            by_cases hon : out = []
            · have HON : Hid (decide (out ≠ []) = false) := by show decide (out ≠ []) = false; simp [hon]
              have HO := Lib.hid hon
              clear hon hbo
              go_wp2_with (first
                | (go_at_call 53; go_must (refine HX.out.2.1.mono ?_); rintro e w2 ⟨rfl, rfl⟩)
                | (go_at_call 63; go_must (refine HX.out.2.2.2.1.mono ?_); rintro e w5 ⟨v5, rfl, b5, o5⟩
                   have hs5 := b5.size
                   have K5 := Lib.hid (And.intro b5 o5)
                   clear b5 o5)
                | (at_builtin
                   go_must (refine wpList_append_reads _ rfl (.tmp 19) (.tmp 21) _ rfl wr.heap.size 3 i0 _ 1 8 Try.underlying28 hi0 hz0 hz1 hz2 rfl (by omega) v5 o.length (cellsI o) rfl (K5.out.2.alloc _) (w5.heap.size + 1) _ 1 1 (cellsI [(k : Int)]) rfl (reads_int (by omega)) (cellsI_one _) (by simp only [maxLen]; omega) (by omega) (by simp; omega) ?_)
                   intro v6 w6 hown6 hg6 hat6
                   have b6 : Below wr.heap.size wr w6 := (K5.out.1.alloc hs5 _).trans (app_below0 (K5.out.2.alloc _) (Nat.le_refl _) (by simp; omega) hg6)
                   rw [show cellsI o ++ cellsI [(k : Int)] = cellsI xs from by rw [HX.out.2.2.2.2.2.2.2.2.2.1]; simp [cellsI], show o.length + 1 = xs.length from HX.out.2.2.2.2.2.2.2.2.1.symm] at hown6
                   obtain ⟨A6, c6, hv6, _, hr6⟩ := own_slice hown6
                   subst hv6
                   have hs6 := b6.size
                   have q1 := (below_cell b6 b1 0 hlb1).trans g1
                   have K6 := Lib.hid (And.intro b6 (And.intro hown6 (And.intro (HX.out.2.2.2.2.1 A6 c6 w6 b6 hr6) hr6)))
                   clear b6 hown6 hg6 hat6 hr6)
                | (go_at_call 54; go_must (refine K6.out.2.2.1.mono ?_); rintro e w7 ⟨v7, vs7, rfl, k7, o7⟩
                   obtain ⟨A7, c7, hv7, _, hn7⟩ := o7.nest
                   subst hv7
                   have hS := iSer_any A7 c7 T w7 hn7 (by omega) HX.out.2.2.2.2.2.2.2.2.2.2
                   rw [HSE.out] at hS
                   have b7 := below_step K6.out.1 k7
                   have q2 := (below_cell b7 b2 0 hlb2).trans g2
                   have K7 := Lib.hid (And.intro k7 (And.intro b7 hS))
                   clear k7 b7 hS hn7 o7)
                | (go_at_call 47; go_must (refine K7.out.2.2.mono ?_); rintro e w8 ⟨rfl, rfl⟩)
                | (go_at_fn f2; go_must (refine (HX.out.2.2.2.2.2.1 HSE.out A6 c6 w7 K7.out.2.1 (K6.out.2.2.2.step K7.out.1)).mono ?_); rintro e w9 ⟨A9, c9, rfl, k9, o9⟩; rw [HON.out]))
              go_roundw
              case rel => exact ⟨k + 1, by omega, by go_num, below_step HX.out.1 (below_step K7.out.2.1 k9), by rw [HX.out.2.2.1]; exact HO.out⟩
              case measure => simp [intOf]; omega
            · have HON : Hid (decide (out ≠ []) = true) := by show decide (out ≠ []) = true; simp [hon]
              clear hon hbo
              go_wp2_with (first
                | (go_at_call 53; go_must (refine HX.out.2.1.mono ?_); rintro e w2 ⟨rfl, rfl⟩)
                | (go_at_call 63; go_must (refine HX.out.2.2.2.1.mono ?_); rintro e w5 ⟨v5, rfl, b5, o5⟩
                   have hs5 := b5.size
                   have K5 := Lib.hid (And.intro b5 o5)
                   clear b5 o5)
                | (at_builtin
                   go_must (refine wpList_append_reads _ rfl (.tmp 19) (.tmp 21) _ rfl wr.heap.size 3 i0 _ 1 8 Try.underlying28 hi0 hz0 hz1 hz2 rfl (by omega) v5 o.length (cellsI o) rfl (K5.out.2.alloc _) (w5.heap.size + 1) _ 1 1 (cellsI [(k : Int)]) rfl (reads_int (by omega)) (cellsI_one _) (by simp only [maxLen]; omega) (by omega) (by simp; omega) ?_)
                   intro v6 w6 hown6 hg6 hat6
                   have b6 : Below wr.heap.size wr w6 := (K5.out.1.alloc hs5 _).trans (app_below0 (K5.out.2.alloc _) (Nat.le_refl _) (by simp; omega) hg6)
                   rw [show cellsI o ++ cellsI [(k : Int)] = cellsI xs from by rw [HX.out.2.2.2.2.2.2.2.2.2.1]; simp [cellsI], show o.length + 1 = xs.length from HX.out.2.2.2.2.2.2.2.2.1.symm] at hown6
                   obtain ⟨A6, c6, hv6, _, hr6⟩ := own_slice hown6
                   subst hv6
                   have hs6 := b6.size
                   have q1 := (below_cell b6 b1 0 hlb1).trans g1
                   have K6 := Lib.hid (And.intro b6 (And.intro hown6 (And.intro (HX.out.2.2.2.2.1 A6 c6 w6 b6 hr6) hr6)))
                   clear b6 hown6 hg6 hat6 hr6)
                | (go_at_call 54; go_must (refine K6.out.2.2.1.mono ?_); rintro e w7 ⟨v7, vs7, rfl, k7, o7⟩
                   obtain ⟨A7, c7, hv7, _, hn7⟩ := o7.nest
                   subst hv7
                   have hS := iSer_any A7 c7 T w7 hn7 (by omega) HX.out.2.2.2.2.2.2.2.2.2.2
                   rw [HSE.out] at hS
                   have b7 := below_step K6.out.1 k7
                   have q2 := (below_cell b7 b2 0 hlb2).trans g2
                   have K7 := Lib.hid (And.intro k7 (And.intro b7 hS))
                   clear k7 b7 hS hn7 o7)
                | (go_at_call 47; go_must (refine K7.out.2.2.mono ?_); rintro e w8 ⟨rfl, rfl⟩)
                | (go_at_fn f2; go_must (refine (HX.out.2.2.2.2.2.1 HSE.out A6 c6 w7 K7.out.2.1 (K6.out.2.2.2.step K7.out.1)).mono ?_); rintro e w9 ⟨A9, c9, rfl, k9, o9⟩; rw [HON.out]))
              go_ret2
              have hne : out ≠ [] := by have := HON.out; simpa using this
              have hres : tryS f o rows.length = out := tryS_stay HX.out.2.2.1 hne (by omega)
              rw [hres, HON.out]
              have hb9 := below_step HX.out.1 (below_step K7.out.2.1 k9)
              refine ⟨A9, c9, rfl, hb9, .inr ?_⟩
              rcases o9 with ⟨h0, rfl, hol9, rfl⟩ | o9
              · have hox := HX.out.2.2.2.2.2.2.2.1 h0 HSE.out
                have h6 := own_less (own_below K6.out.2.1 (below_step K7.out.1 k9)) hsz
                rw [hox]
                exact h6
              · exact own_less o9 (Nat.le_trans hsz K7.out.2.1.size)
      · obtain rfl : k = rows.length := by omega
        have hdn : decide ((rows.length : Int) < (rows.length : Int)) = false := decide_eq_false (by omega)
        have HX := Lib.hid (And.intro hbl htr)
        clear hbl htr
        go_wp2_with fail
        go_ret2
        rw [HX.out.2]
        exact ⟨none, 0, by simp, HX.out.1, .inr (World.ownsRow_nil _ _ _ _)⟩
set_option maxHeartbeats 1600000 in
set_option maxRecDepth 100000 in
theorem iExtend_any (A : Option Addr) (n ca : Nat) (d : Nat) (f : FuncId) (c : Array Value) (w : World) (hE : ExtV w w.heap.size A n ca d f c) :
    Calls Try.prog 51 #[.slice A n ca, .func (.func f) #[] c] w fun e w2 => ∃ f2 c2, e = .returned (.func (.func f2) #[] c2) ∧ Below w.heap.size w w2 ∧ ExtV w2 w2.heap.size A n ca (d + 1) f2 c2 := by
  have hmf : ∀ (fn : Fn) (first cap : Array Value) (w : World), (Instr.makeFunc fn first cap).run Try.prog w = .ok (.func fn first cap) w := fun _ _ _ _ => rfl
  go_enter Try.func51, Try.ntmps51
  go_wp2_with fail
  go_ret
  obtain ⟨W1, hW1⟩ : ∃ W1, W1 = w.alloc (.cells #[.slice A n ca] 23) := ⟨_, rfl⟩
  obtain ⟨W2, hW2⟩ : ∃ W2, W2 = W1.alloc (.cells #[.func (.func f) #[] c] 55) := ⟨_, rfl⟩
  have b1 : Below w.heap.size w W1 := by rw [hW1]; exact (Below.refl _ _).alloc (Nat.le_refl _) _
  have s1 : W1.heap.size = w.heap.size + 1 := by rw [hW1]; simp
  have b2 : Below W1.heap.size W1 W2 := by rw [hW2]; exact (Below.refl _ _).alloc (Nat.le_refl _) _
  have s2 : W2.heap.size = w.heap.size + 2 := by rw [hW2]; simp [s1]
  have g1 : W1.heap[w.heap.size]? = some (.cells #[.slice A n ca] 23 (0, 0)) := by rw [hW1]; exact heap_alloc_new _ _
  have g2 : W2.heap[w.heap.size + 1]? = some (.cells #[.func (.func f) #[] c] 55 (0, 0)) := by rw [hW2, ← s1]; exact heap_alloc_new _ _
  rw [← hW1, ← hW2]
  exact ⟨_, _, rfl, below_step b1 b2, rfl, _, _, f, c, rfl, by omega, by omega, (below_cell b2 _ 0 (by omega)).trans (cell_of_row _ _ 0 _ _ _ g1), cell_of_row _ _ 0 _ _ _ g2, (hE.step b1).step b2⟩
set_option maxHeartbeats 3200000 in
set_option maxRecDepth 100000 in
theorem iRowsOrd_any (A : Option Addr) (ca : Nat) (rows : List (List Bool)) (w : World) (hr : Nest encB w w.heap.size A rows.length rows) (hl : rows.length ≤ 2000000) (_ : ∀ r ∈ rows, r.length ≤ 2000000) :
    Calls Try.prog 21 #[.slice A rows.length ca] w fun e w2 => ∃ v, e = .returned (.tuple #[v, .bool (ordSOk rows)]) ∧ Below w.heap.size w w2 ∧ w2.ownsRow w.heap.size 3 1 v (ordSG rows).length (cellsI (ordSG rows)) := by
  have hV := iRowsVs_any A ca rows w hr (by omega)
  cases h1 : okS rows
  · rw [h1] at hV
    have h0 : ordSG rows = [] := by simp [ordSG, h1]
    have HN := Lib.hid (And.intro h0 (by simp [ordSOk, h0] : ordSOk rows = false))
    have H := Lib.hid hV
    clear hV h1 hr h0
    go_enter Try.func21, Try.ntmps21
    go_wp2_with (go_at_call 31; go_must (refine H.out.mono ?_); rintro e w2 ⟨rfl, rfl⟩)
    go_ret2
    rw [HN.out.1, HN.out.2]
    exact ⟨_, rfl, Below.refl _ _, World.ownsRow_nil _ _ _ _⟩
  · rw [h1] at hV
    obtain ⟨h5, hn1, hn5⟩ := okS_parts h1
    have hG : ordSG rows = srchS rows rows.length [] := if_pos h1
    have hk : ordSOk rows = decide (ordSG rows ≠ []) := rfl
    rw [hk]
    obtain ⟨out, hout⟩ : ∃ out, out = ordSG rows := ⟨_, rfl⟩
    rw [← hout] at hG ⊢
    have hX : ∀ (f : FuncId) (c : Array Value) (W : World), Below w.heap.size w W → ExtV W W.heap.size A rows.length ca rows.length f c → Calls Try.prog f (#[.slice none 0 0] ++ c) W (OrdE W none 0 0 rows.length out (decide (out ≠ []))) := fun f c W hW hE => by
      rw [hG]
      exact ext_any A ca rows h1 rows.length [] none 0 W f c (by simp) List.nodup_nil (fun x hx => by cases hx) (fun h0 => by omega) (hr.step hW) Reads.nil_ hE
    obtain ⟨ok, hok⟩ : ∃ ok, ok = decide (out ≠ []) := ⟨_, rfl⟩
    rw [← hok] at hX ⊢
    have H := Lib.hid (And.intro hV (And.intro hX hn1))
    clear hV h1 hr hX hG hout hk hok h5 hn1
    go_enter Try.func21, Try.ntmps21
    go_wp2_with (go_at_call 31; go_must (refine H.out.1.mono ?_); rintro e w2 ⟨rfl, rfl⟩)
    go_loopw [4, 10] (fun v i wr => ∃ (k : Nat) (f : FuncId) (c : Array Value), k ≤ rows.length ∧ i = .int .i64 k ∧ v = .func (.func f) #[] c ∧ Below w.heap.size w wr ∧ ExtV wr wr.heap.size A rows.length ca k f c) (fun _ i _ => rows.length - (intOf i).toNat)
    case atStart => exact ⟨0, _, _, Nat.zero_le _, rfl, rfl, Below.refl _ _, rfl, rfl⟩
    case round =>
      obtain ⟨k, f, c, hk, rfl, rfl, hbl, hE⟩ := hrel
      by_cases hlt : k < rows.length
      · have hki : (k : Int) < (rows.length : Int) := by omega
        have hI := iExtend_any A rows.length ca k f c wr hE
        have HX := Lib.hid (And.intro hbl hI)
        clear hbl hE hI
        go_wp2_with (go_at_call 51; go_must (refine HX.out.2.mono ?_); rintro e w2 ⟨f2, c2, rfl, k2, e2⟩)
        go_roundw
        case rel => exact ⟨k + 1, f2, c2, by omega, by go_num, rfl, below_step HX.out.1 k2, e2⟩
        case measure => simp [intOf]; omega
      · have hdn : decide ((k : Int) < (rows.length : Int)) = false := decide_eq_false (by omega)
        have hkn : k = rows.length := by omega
        have hE2 := hE
        rw [hkn] at hE2
        have hcf := hE.enters
        have HX := Lib.hid (And.intro hbl (H.out.2.1 f c wr hbl hE2))
        clear hbl hE hE2 hkn
        go_wp2_with (go_at_fn f; go_must (refine HX.out.2.mono ?_); rintro e w9 ⟨A9, c9, rfl, k9, o9⟩)
        go_ret2
        refine ⟨_, rfl, below_step HX.out.1 k9, ?_⟩
        rcases o9 with ⟨h0, _⟩ | o9
        · have := H.out.2.2; omega
        · exact own_less o9 HX.out.1.size
end Go.Proofs.Ytapmeooffmonmaa

import Derived.Test.YtgjomknpjigkhaaGreatDoorS40
import Derived.Defers
import Derived.Recover
namespace Go.Proofs.YtgjomknpjigkhaaGreatDoor
set_option maxRecDepth 100000
set_option maxHeartbeats 4000000
section
open Go.RowKit Go.Shelf
attribute [local go_sem] Oper.semAt_some
section
variable {w:World} {bb gr cr:Nat} {B:SB} {S:ST} {rs:List RelX} {x0 x1 x3:Value}
theorem rank_says (h:Bse w bb B S gr cr rs x0 x1 x3) {Fs:Nat→List Nat→Prop} {rk:Nat→List Nat→Option Nat} (ha:AllS S rs Fs rk) {i:Nat} {r:RelX} (hi:rs[i]?=some r) {g cap:Nat} {l:List Nat} (hrow:RowIs w g (dgs l)) (hl:l∈alls r.n) :
  Calls Tryz.prog 51 #[.pointer (some ⟨bb,0,none⟩),.int .i64 (i:Int),.slice (some ⟨g,0,none⟩) l.length cap] w fun e w'=>e=.returned (.tuple #[.int .i64 (((rk i l).getD 0:Nat):Int),.bool (rk i l).isSome])∧Keeps [] w w':=by
 obtain ⟨hl1,hl2⟩:=alls_iff.1 hl
 have hrm:=List.mem_of_getElem? hi
 have hn3:=h.cols r hrm
 have hg:=(ha i r hi).ranks l hl
 obtain ⟨cs,hc,hcs⟩:=h.rel
 have hil:(i:Int)<rs.length:=by have:=(List.getElem?_eq_some_iff.1 hi).1;omega
 have g4:w.cell? ⟨gr,i * 5+4,none⟩=some (.map (some r.rm)):=by rw [hc.cell];exact (hcs i r hi).c4
 have g2:=h.cells.cell 2
 simp at g2
 have hkeep:=hide (fun (W:World) (k:Keeps [] w W)=>show W.cell? ⟨bb,2,none⟩=some (.slice (some ⟨gr,0,none⟩) rs.length cr)∧W.cell? ⟨gr,i * 5+4,none⟩=some (.map (some r.rm)) from ⟨by have:=(h.cells.keeps k (by simp)).cell 2;simpa using this,by rw [(hc.keeps k (by simp)).cell];exact (hcs i r hi).c4⟩)
 have has:=hide (fun (W:World) (k:Keeps [] w W)=>assign_calls (w:=W) (cap:=cap) (hrow.keepsE k (by simp)) (by omega) hl2)
 have hlk:=hide (fun (W:World) (k:Keeps [] w W)=>run_look (P:=Tryz.prog) Tryz.underlying146 key3 (z:=.int .i64 0) zero3 ((h.maps r hrm).kept k (by simp)) (asn l:Int) true)
 rw [hg] at hlk
 have Hl1:=hide hl1
 generalize hrv:rk i l=v at hlk ⊢
 clear hi hl hl1 hc hcs hg ha h hrow hrv
 go_enter Tryz.func51,Tryz.ntmps51
 go_wp2_with fail
 go_region_held3 (fun w'=>w'.cell? ⟨bb,2,none⟩=some (.slice (some ⟨gr,0,none⟩) rs.length cr)∧w'.cell? ⟨gr,i * 5+4,none⟩=some (.map (some r.rm))) (first | exact ⟨g2,g4⟩ | exact ⟨a0,a1⟩)
  (first
  | (go_at_call 86
     refine (has.out _ (Keeps.drew [] _)).mono ?_
     rintro e W5 ⟨rfl,k5⟩
     obtain ⟨a0,a1⟩:=hkeep.out W5 ((Keeps.drew [] w).trans k5)
     have hlk5:=hlk.out W5 ((Keeps.drew [] w).trans k5)
     simp only [eI,if_true] at hlk5))
 all_goals
  go_wp2_with fail
  go_ret2
  exact ⟨by cases v <;> rfl,(Keeps.drew [] w).trans k5⟩
theorem place_says {z:Nat} {X:List Nat} {ns:List ByteArray} (h:Bse w bb B S gr cr rs x0 x1 x3) (hs:SetV w z X x0 x1 ns) (s:ByteArray):Calls Tryz.prog 39 #[.pointer (some ⟨bb,0,none⟩),.string s] w fun e w'=>e=.returned (.tuple #[.int .i64 ((placeB ns s).getD 0:Nat),.bool (placeB ns s).isSome])∧w' = w:=by
 have g1:=h.cells.cell 1
 simp at g1
 have hp:=hide (place_calls (B:=bb) (o:=0) hs g1 s)
 clear g1
 go_enter Tryz.func39,Tryz.ntmps39
 go_wp2_with fail
 refine hp.out.mono ?_
 rintro e w1 ⟨rfl,rfl⟩
 go_wp2_with fail
 go_ret2
 exact ⟨rfl,rfl⟩
theorem fits_says (h:Bse w bb B S gr cr rs x0 x1 x3) {i:Nat} {r:RelX} (hi:rs[i]?=some r) {gs:Nat} {ss:List Int} (hsa:r.sa=some ⟨gs,0,none⟩) (hss:RowIs w gs ss) (hsn:ss.length=r.n) {g cap:Nat} {l:List Nat} (hrow:RowIs w g (dgs l)) (hln:l.length=r.n) (hfit:∀ (k:Nat) (x:Nat) (y:Int),l[k]?=some x→ss[k]?=some y→(x:Int)<y) :
  Calls Tryz.prog 84 #[.pointer (some ⟨bb,0,none⟩),.int .i64 (i:Int),.slice (some ⟨g,0,none⟩) l.length cap] w fun e w'=>e=.returned (.bool true)∧Keeps [] w w':=by
 obtain ⟨cs,hc,hcs⟩:=h.rel
 have hn3:=h.cols r (List.mem_of_getElem? hi)
 have hil:(i:Int)<rs.length:=by have:=(List.getElem?_eq_some_iff.1 hi).1;omega
 have g0:w.cell? ⟨gr,i * 5,none⟩=some (.slice (some ⟨gs,0,none⟩) r.n r.cc):=by rw [hc.cell,←hsa];exact (hcs i r hi).c0
 have g2:=h.cells.cell 2
 simp at g2
 have Hln:=hide hln
 have Hsn:=hide hsn
 clear hi hln hsn hc hcs h hsa
 go_enter Tryz.func84,Tryz.ntmps84
 go_wp2_with fail
 go_loopw [18] (fun y wr=>∃ (k:Nat),y=.int .i64 k∧k≤r.n∧Keeps [] w wr) (fun y _=>((r.n:Int) - intOf y).toNat)
 case atStart=>exact ⟨0,rfl,by omega,Keeps.refl _ _⟩
 case round=>
  obtain ⟨k,rfl,hk,hkw⟩:=hrel
  by_cases hkn:k<r.n
  ·have hkI:(k:Int)<r.n:=by omega
   have hkl:(k:Int)<l.length:=by have:=Hln.out;omega
   obtain ⟨y,hy⟩:∃ y,ss[k]?=some y:=⟨_,List.getElem?_eq_getElem (by rw [Hsn.out];exact hkn)⟩
   obtain ⟨x,hx⟩:∃ x,l[k]?=some x:=⟨_,List.getElem?_eq_getElem (by rw [Hln.out];exact hkn)⟩
   have hlt:=hfit k x y hx hy
   obtain ⟨c1,e1,e2⟩:=hss.keepsE hkw (by simp)
   obtain ⟨c3,e3,e4⟩:=hrow.keepsE hkw (by simp)
   have q1:wr.cell? ⟨gs,k,none⟩=some (.int .i64 y):=by rw [e1.cell];exact e2 k y hy
   have q2:wr.cell? ⟨g,k,none⟩=some (.int .i64 (x:Int)):=by rw [e3.cell];exact e4 k (x:Int) (by simp [dgs,hx])
   have hx0:¬ (x:Int)<0:=by omega
   have hxy:¬ y≤(x:Int):=by omega
   clear hx hy e1 e2 e3 e4
   go_wp2_with fail
   exact ⟨⟨k+1,by simp,by omega,hkw⟩,by simp only [intOf];omega⟩
  ·have hkI:¬ (k:Int)<r.n:=by omega
   go_wp2_with fail
   go_ret
   exact ⟨rfl,hkw⟩
end
structure TupOk (m:Mean) (i:Nat) (l:List Nat):Prop where
 rel:∃ nm cols,m.rels[i]?=some (nm,cols)∧l.length=cols.length∧∀ (k x d:Nat),l[k]?=some x→cols[k]?=some d→(x:Int)<m.size d
theorem size_le {m:Mean} (h:MeanOk m) (d:Nat):m.size d≤8:=by
 unfold Mean.size
 cases hd:m.doms[d]? with
 | none=>simp
 | some x=>exact (h.sizes x (List.mem_of_getElem? hd)).2
section
variable {w:World} {z eb bb:Nat} {B:SB} {S:ST} {gr cr:Nat} {rs:List RelX} {tv mv:Value} {ka:Option Addr} {ks:List CluX} {kc:Nat} {m:Mean} {vals:List Nat} {Fs:Nat→List Nat→Prop} {rk:Nat→List Nat→Option Nat}
theorem EngIs.keeps0 {w':World} (h:EngIs w z bb B S gr cr rs tv mv ka ks kc m vals Fs rk) (k:Keeps [] w w'):EngIs w' z bb B S gr cr rs tv mv ka ks kc m vals Fs rk:=
 ⟨h.bse.keeps0 k,h.all,h.kls.keeps k (by simp),h.ksc,h.set.keeps k (by simp),h.low,h.len,fun i r nm cols hi hc=>by
  obtain ⟨a,b,g,c,d,e,f⟩:=h.rels i r nm cols hi hc
  exact ⟨a,b,g,c,d,e,f.keepsE k (by simp)⟩⟩
theorem EngIs.tup (h:EngIs w z bb B S gr cr rs tv mv ka ks kc m vals Fs rk) (hok:MeanOk m) {i:Nat} {l:List Nat} (ht:TupOk m i l):∃ r gs ss,rs[i]?=some r∧r.sa=some ⟨gs,0,none⟩∧RowIs w gs ss∧ss.length=r.n∧l.length=r.n∧(∀ (k:Nat) (x:Nat) (y:Int),l[k]?=some x→ss[k]?=some y→(x:Int)<y)∧l∈alls r.n:=by
 obtain ⟨nm,cols,hc,hl,hx⟩:=ht.rel
 have hil:=(List.getElem?_eq_some_iff.1 hc).1
 obtain ⟨r,hr⟩:∃ r,rs[i]?=some r:=⟨_,List.getElem?_eq_getElem (by rw [h.len];exact hil)⟩
 obtain ⟨a,_,g,b,_,_,e⟩:=h.rels i r nm cols hr hc
 refine ⟨r,g,_,hr,b,e,by rw [a];simp,by rw [a];exact hl,fun k x y h1 h2=>?_,alls_iff.2 ⟨by rw [a];exact hl,fun x hxm=>?_⟩⟩
 ·rw [List.getElem?_map] at h2
  obtain ⟨d,hd,rfl⟩:=Option.map_eq_some_iff.1 h2
  exact hx k x d h1 hd
 ·obtain ⟨k,hk,rfl⟩:=List.getElem_of_mem hxm
  have:=hx k _ _ (List.getElem?_eq_getElem hk) (List.getElem?_eq_getElem (by rw [←hl];exact hk))
  have:=size_le hok (cols[k]'(by rw [←hl];exact hk))
  omega
theorem place46_calls (h:EngIs w z bb B S gr cr rs tv mv ka ks kc m vals Fs rk) (hok:MeanOk m) (he:CellsAt w eb #[.pointer (some ⟨bb,0,none⟩)]) {s:ByteArray} {i:Nat} (hs:placeB (m.rels.map Prod.fst) s=some i) {g cap:Nat} {l:List Nat} (hrow:RowIs w g (dgs l)) (ht:TupOk m i l) :
  Calls Tryz.prog 46 #[.pointer (some ⟨eb,0,none⟩),.string s,.slice (some ⟨g,0,none⟩) l.length cap] w fun e w'=>e=.returned (.tuple #[.int .i64 (i:Int),.int .i64 0])∧Keeps [] w w':=by
 obtain ⟨r,gs,ss,hr,hsa,hss,hsn,hln,hfit,_⟩:=h.tup hok ht
 have hpl:=hide (fun (W:World) (k:Keeps [] w W)=>place_says (h.bse.keeps0 k) (h.set.keeps k (by simp)) s)
 rw [hs] at hpl
 have hco:=hide (fun (W:World) (k:Keeps [] w W)=>columns_says (h.bse.keeps0 k) hr)
 rw [←hln] at hco
 have hfi:=hide (fun (W:World) (k:Keeps [] w W)=>fits_says (cap:=cap) (h.bse.keeps0 k) hr hsa (hss.keepsE k (by simp)) hsn (hrow.keepsE k (by simp)) hln hfit)
 have e0:=he.cell 0
 simp at e0
 clear hln hsn hs
 go_enter Tryz.func46,Tryz.ntmps46
 go_wp2_with fail
 refine (hpl.out _ (Keeps.refl _ _)).mono ?_
 rintro e w1 ⟨rfl,rfl⟩
 go_wp2_with fail
 refine (hco.out _ (Keeps.refl _ _)).mono ?_
 rintro e w1 ⟨rfl,rfl⟩
 go_wp2_with fail
 refine (hfi.out _ (Keeps.refl _ _)).mono ?_
 rintro e w1 ⟨rfl,k1⟩
 go_wp2_with fail
 go_ret2
 exact ⟨rfl,k1⟩
end
end
section
open Go.RowKit
section
variable {w:World} {z eb bb:Nat} {B:SB} {S:ST} {gr cr:Nat} {rs:List RelX} {tv mv:Value} {ka:Option Addr} {ks:List CluX} {kc:Nat} {m:Mean} {vals:List Nat} {Fs:Nat→List Nat→Prop} {rk:Nat→List Nat→Option Nat}
theorem rank29_calls (h:EngIs w z bb B S gr cr rs tv mv ka ks kc m vals Fs rk) (hok:MeanOk m) (he:CellsAt w eb #[.pointer (some ⟨bb,0,none⟩)]) {s:ByteArray} {i:Nat} (hs:placeB (m.rels.map Prod.fst) s=some i) {g cap:Nat} {l:List Nat} (hrow:RowIs w g (dgs l)) (ht:TupOk m i l) :
  Calls Tryz.prog 29 #[.pointer (some ⟨eb,0,none⟩),.string s,.slice (some ⟨g,0,none⟩) l.length cap] w fun e w'=>e=.returned (.tuple #[.int .i64 (((rk i l).getD 0:Nat):Int),.int .i64 (if (rk i l).isSome then 0 else 14)])∧Keeps [] w w':=by
 obtain ⟨r,hr,hal⟩:∃ r,rs[i]?=some r∧l∈alls r.n:=by
  obtain ⟨r,gs,ss,hr,_,_,_,_,_,hal⟩:=h.tup hok ht
  exact ⟨r,hr,hal⟩
 have hpl:=hide (place46_calls (cap:=cap) h hok he hs hrow ht)
 have hrk:=hide (fun (W:World) (k:Keeps [] w W)=>rank_says (cap:=cap) (h.bse.keeps0 k) h.all hr (hrow.keepsE k (by simp)) hal)
 generalize rk i l=v at hrk ⊢
 clear hs h hok ht hrow hal hr
 go_enter Tryz.func29,Tryz.ntmps29
 go_wp2_with fail
 refine hpl.out.mono ?_
 rintro e w1 ⟨rfl,k1⟩
 have e0:=(he.keeps k1 (by simp)).cell 0
 simp at e0
 cases v with
 | none=>
  go_wp2_with fail
  refine (hrk.out _ k1).mono ?_
  rintro e w2 ⟨rfl,k2⟩
  go_wp2_with fail
  go_ret2
  exact ⟨rfl,k1.trans k2⟩
 | some x=>
  go_wp2_with fail
  refine (hrk.out _ k1).mono ?_
  rintro e w2 ⟨rfl,k2⟩
  go_wp2_with fail
  go_ret2
  exact ⟨rfl,k1.trans k2⟩
end
end
section
open Go.RowKit
theorem withEnd_len (ts:List Tn) (m:Nat):(withEnd ts m).length=ts.length+1:=by simp [withEnd]
theorem read_long {w:World} (s:ByteArray) (hs:1200<s.size) (hs2:s.size≤9223372036854775807):Calls Tryz.prog 66 #[.string s] w fun e w'=>e=gaveUp 4 0∧w' = w:=by
 have hg:=hide (fun (w:World)=>giveUp_calls (w:=w) 4 0)
 have hI:(1200:Int)<s.size:=by omega
 go_enter Tryz.func66,Tryz.ntmps66
 go_wp2_with fail
 refine (hg.out _).mono ?_
 rintro e w1 ⟨rfl,rfl⟩
 exact ⟨rfl,rfl,rfl⟩
theorem read_short {w:World} (s:ByteArray) (hs:¬ 1200<s.size):Calls Tryz.prog 66 #[.string s] w fun e w'=>ReadTo w.heap.size (readS s) e w'∧Keeps [] w w':=by
 have hsc:=hide (scan_calls (w:=w) s (by omega))
 have hI:¬ (1200:Int)<s.size:=by omega
 rw [scanT_scan] at hsc
 have hrd:readS s=match scanT s.size s 1 with
  | .inr l=>.error (5,l)
  | .inl (ts,m)=>match itemsG (withEnd ts m).length (withEnd ts m) with
   | .error l=>.error (5,l)
   | .ok is=>match senseS emptyM is with
    | .error f=>.error f
    | .ok me=>match laterS me with
     | .error f=>.error f
     | .ok _=>.ok (withEnd ts m,me):=by unfold readS;rw [if_neg hs];rfl
 rw [hrd]
 clear hrd
 cases hT:scanT s.size s 1 with
 | inr l=>
  rw [hT] at hsc
  clear hT
  go_enter Tryz.func66,Tryz.ntmps66
  go_wp2_with fail
  refine hsc.out.mono ?_
  rintro e w1 ⟨he,k1⟩
  have he':e=gaveUp 5 l:=he
  subst he'
  exact ⟨rfl,rfl,k1⟩
 | inl q=>
  obtain ⟨ts,m⟩:=q
  rw [hT] at hsc
  simp only
  have hend:=scanT_ended hT
  have hwf:=scanT_wf hT
  obtain ⟨hlen,hm1,_,htx⟩:=scanT_len hT
  have hwl:=withEnd_len ts m
  have hpc:=hide (fun (W:World) (g c:Nat) (h:PTok W g 0 (withEnd ts m)) (hc:(withEnd ts m).length≤c)=>parse_calls (w:=W) (g:=g) (c:=c) (toks:=withEnd ts m) h hc hend (by omega))
  have hto:∀ {W:World} {v:Value},W.ownsRow w.heap.size 129 3 v (ts.length+1) (tokCs (withEnd ts m))→∃ g c,v=.slice (some ⟨g,0,none⟩) (ts.length+1) c∧PTok W g 0 (withEnd ts m)∧ts.length+1≤c:=fun h=>by
   obtain ⟨g,c,rfl⟩:=ownE_succ h
   exact ⟨g,c,rfl,rowPTok h,ownE_cap h⟩
  have Hto:=hide (fun (W:World) (v:Value) (h:W.ownsRow w.heap.size 129 3 v (ts.length+1) (tokCs (withEnd ts m)))=>hto h)
  cases hG:itemsG (withEnd ts m).length (withEnd ts m) with
  | error l=>
   rw [hG] at hpc
   clear hT hG hto hend hwf
   go_enter Tryz.func66,Tryz.ntmps66
   go_wp2_with fail
   refine hsc.out.mono ?_
   rintro e w1 ⟨⟨v,rfl,hv⟩,k1⟩
   rw [List.length_map,tok_cells] at hv
   obtain ⟨g,c,rfl,hp,hgc⟩:=Hto.out w1 v hv
   have hcall:=hide (hpc.out w1 g c hp (by omega))
   rw [hwl] at hcall
   clear hv hp
   go_wp2_with fail
   refine hcall.out.mono ?_
   rintro e w2 ⟨rfl,k2⟩
   exact ⟨rfl,rfl,k1.trans k2⟩
  | ok is=>
   rw [hG] at hpc
   simp only
   obtain ⟨hin,hil⟩:=items_in (Nat.le_refl _) hend hG
   have hin2:∀ i∈is,ItemWf i:=fun i hi=>by
    have h:=hin i hi
    have hwfE:∀ t∈withEnd ts m,isFinG t.g=false→WfG t.g:=fun t ht hf=>by
     rcases List.mem_append.1 ht with q | q
     ·exact hwf t q
     ·have e:t=⟨.fin,m⟩:=(by simpa using q)
      rw [e] at hf;cases hf
    have hterm:∀ t:Tn,isTermG t.g=true∧t∈withEnd ts m→isTermG t.g=true∧WfG t.g:=fun t h=>⟨h.1,hwfE t h.2 (term_noFin.no h.1)⟩
    cases i with
    | dom n z=>
     refine ⟨?_,hwfE z h.2.2 (int_noFin.no h.2.1)⟩
     cases hz:z.g with
     | int zs=>exact ⟨zs,rfl⟩
     | _=>have:=h.2.1;rw [hz] at this;cases this
    | rel n cs=>have:=h.2.2;show cs.length≤1000000;omega
    | clause a ls=>
     refine ⟨⟨by have:=h.1.2.2.2;omega,fun t ht=>hterm t (h.1.2.2.1 t ht)⟩,by have:=h.2.2;omega,fun l hl=>⟨by have:=(h.2.1 l hl).2.2.2;omega,fun t ht=>hterm t ((h.2.1 l hl).2.2.1 t ht)⟩⟩
   have hun:=hide (fun (W:World) (X:List Nat) (iv:Value) (vs:List Value) (hr:W.ownsRow w.heap.size 273 1 iv is.length vs) (hia:ItemsAre W w.heap.size X is vs)=>understand_calls is hr hia hin2 (by omega))
   cases hS:senseS emptyM is with
   | error f=>
    rw [hS] at hun
    clear hT hG hto hend hwf hin hin2 hS
    go_enter Tryz.func66,Tryz.ntmps66
    go_wp2_with fail
    refine hsc.out.mono ?_
    rintro e w1 ⟨⟨v,rfl,hv⟩,k1⟩
    rw [List.length_map,tok_cells] at hv
    obtain ⟨g,c,rfl,hp,hgc⟩:=Hto.out w1 v hv
    have hcall:=hide (hpc.out w1 g c hp (by omega))
    rw [hwl] at hcall
    have hs1:=k1.size
    clear hv hp
    go_wp2_with fail
    refine hcall.out.mono ?_
    rintro e w2 ⟨⟨iv,vs,rfl,hr,hia⟩,k2⟩
    have hcall2:=hide (hun.out w2 _ iv vs (ownE_mono hr hs1) (hia.mono hs1))
    obtain ⟨ia,ic,hiv⟩:=ownE_len hr
    subst hiv
    clear hr hia
    go_wp2_with fail
    refine hcall2.out.mono ?_
    rintro e w3 ⟨rfl,k3⟩
    exact ⟨rfl,rfl,(k1.trans k2).trans k3⟩
   | ok me=>
    rw [hS] at hun
    simp only
    have hok:MeanOk me:=senseS_ok MeanOk.empty hS
    have hmc:=senseS_match (m:=emptyM) (cs:=[]) trivial hS
    rw [List.nil_append] at hmc
    have hfine:∀ c∈me.clauses,ClauseFine c∧c.lits.length≤4:=fun c hc=>⟨hmc.fine (fun c' hc'=>by
     have h:=hin2 _ (clausesI_mem hc')
     exact ⟨h.1.1,fun l hl=>(h.2.2 l hl).1⟩) c hc,hok.lits c hc⟩
    have hnames:∀ r∈me.rels,r.1.size≤1000000:=senseS_names (m:=emptyM) (p:=fun b=>b.size≤1000000) (by intro r hr;cases hr) (fun i hi n cs e=>by
     subst e
     have h:=hin _ hi
     rcases List.mem_append.1 h.1.2 with q | q
     ·have:=htx n q;omega
     ·have e:n=⟨.fin,m⟩:=(by simpa using q)
      rw [e];exact Nat.zero_le _) hS
    have hus:=hide (fun (W:World) (B:Nat) (h:MeanAt W B B me)=>unsafe_calls h hfine hok.clauses)
    have hci:=hide (fun (W:World) (B:Nat) (h:MeanAt W B B me)=>circles_calls h hok)
    unfold laterS
    clear hT hto hend hwf hin hin2 hS hG hmc
    cases hU:firstC unsafeM me.clauses with
    | some l=>
     rw [hU] at hus
     simp only
     clear hU
     go_enter Tryz.func66,Tryz.ntmps66
     go_wp2_with fail
     refine hsc.out.mono ?_
     rintro e w1 ⟨⟨v,rfl,hv⟩,k1⟩
     rw [List.length_map,tok_cells] at hv
     obtain ⟨g,c,rfl,hp,hgc⟩:=Hto.out w1 v hv
     have hcall:=hide (hpc.out w1 g c hp (by omega))
     rw [hwl] at hcall
     have hs1:=k1.size
     clear hv hp
     go_wp2_with fail
     refine hcall.out.mono ?_
     rintro e w2 ⟨⟨iv,vs,rfl,hr,hia⟩,k2⟩
     have hcall2:=hide (hun.out w2 _ iv vs (ownE_mono hr hs1) (hia.mono hs1))
     obtain ⟨ia,ic,hiv⟩:=ownE_len hr
     subst hiv
     clear hr hia
     go_wp2_with fail
     refine hcall2.out.mono ?_
     rintro e w3 ⟨⟨rfl,hm3⟩,k3⟩
     have hcall3:=hide (hus.out w3 w2.heap.size hm3)
     clear hm3
     go_wp2_with fail
     refine hcall3.out.mono ?_
     rintro e w4 ⟨rfl,k4⟩
     exact ⟨rfl,rfl,((k1.trans k2).trans k3).trans k4⟩
    | none=>
     rw [hU] at hus
     simp only
     clear hU
     cases hC:firstC (circleC me.rels.length (edgesM me.clauses)) me.clauses with
     | some l=>
      rw [hC] at hci
      simp only
      clear hC
      go_enter Tryz.func66,Tryz.ntmps66
      go_wp2_with fail
      refine hsc.out.mono ?_
      rintro e w1 ⟨⟨v,rfl,hv⟩,k1⟩
      rw [List.length_map,tok_cells] at hv
      obtain ⟨g,c,rfl,hp,hgc⟩:=Hto.out w1 v hv
      have hcall:=hide (hpc.out w1 g c hp (by omega))
      rw [hwl] at hcall
      have hs1:=k1.size
      clear hv hp
      go_wp2_with fail
      refine hcall.out.mono ?_
      rintro e w2 ⟨⟨iv,vs,rfl,hr,hia⟩,k2⟩
      have hcall2:=hide (hun.out w2 _ iv vs (ownE_mono hr hs1) (hia.mono hs1))
      obtain ⟨ia,ic,hiv⟩:=ownE_len hr
      subst hiv
      clear hr hia
      go_wp2_with fail
      refine hcall2.out.mono ?_
      rintro e w3 ⟨⟨rfl,hm3⟩,k3⟩
      have hcall3:=hide (hus.out w3 w2.heap.size hm3)
      have Hm3:=hide hm3
      clear hm3
      go_wp2_with fail
      refine hcall3.out.mono ?_
      rintro e w4 ⟨rfl,k4⟩
      have hcall4:=hide (hci.out w4 w2.heap.size (Hm3.out.keeps k4 (by simp)))
      go_wp2_with fail
      refine hcall4.out.mono ?_
      rintro e w5 ⟨rfl,k5⟩
      exact ⟨rfl,rfl,(((k1.trans k2).trans k3).trans k4).trans k5⟩
     | none=>
      rw [hC] at hci
      simp only
      have hnc:=firstC_none hC
      have hrl:=hide (fun (W:World) (B:Nat) (h:MeanAt W B B me)=>rels_calls h hok hnc hnames)
      clear hC hnc hnames
      go_enter Tryz.func66,Tryz.ntmps66
      go_wp2_with fail
      refine hsc.out.mono ?_
      rintro e w1 ⟨⟨v,rfl,hv⟩,k1⟩
      rw [List.length_map,tok_cells] at hv
      obtain ⟨g,c,rfl,hp,hgc⟩:=Hto.out w1 v hv
      have hcall:=hide (hpc.out w1 g c hp (by omega))
      rw [hwl] at hcall
      have hs1:=k1.size
      have Hv:=hide hv
      clear hv hp
      go_wp2_with fail
      refine hcall.out.mono ?_
      rintro e w2 ⟨⟨iv,vs,rfl,hr,hia⟩,k2⟩
      have hcall2:=hide (hun.out w2 _ iv vs (ownE_mono hr hs1) (hia.mono hs1))
      obtain ⟨ia,ic,hiv⟩:=ownE_len hr
      subst hiv
      have hs2:=k2.size
      clear hr hia
      go_wp2_with fail
      refine hcall2.out.mono ?_
      rintro e w3 ⟨⟨rfl,hm3⟩,k3⟩
      have hcall3:=hide (hus.out w3 w2.heap.size hm3)
      have Hm3:=hide hm3
      clear hm3
      go_wp2_with fail
      refine hcall3.out.mono ?_
      rintro e w4 ⟨rfl,k4⟩
      have hcall4:=hide (hci.out w4 w2.heap.size (Hm3.out.keeps k4 (by simp)))
      go_wp2_with fail
      refine hcall4.out.mono ?_
      rintro e w5 ⟨rfl,k5⟩
      have hm5:=Hm3.out.keeps (k4.trans k5) (by simp)
      have kall5:=(((k1.trans k2).trans k3).trans k4).trans k5
      have hcall5:=hide (hrl.out w5.drew w2.heap.size (hm5.keeps (Keeps.drew [] _) (by simp)))
      obtain ⟨tD,mD,sz,tN,mN,co,cl,ln,cvs,kvs,hV⟩:=hm5
      obtain ⟨ca,ccc,hcl⟩:=ownE_len hV.cls
      subst hcl
      have c6:=hV.cells.cell 6
      have HV:=hide hV
      have hBl:=hV.cells.lt
      have kb:=k2.trans (k3.trans (k4.trans k5))
      have hs5:=kb.size
      clear hV hcall hcall2 hcall3 hcall4
      go_wp2_with fail
      go_region_law (first
       | (refine step_callA rfl 138 _ _ rfl _ Tryz.func138 (by kernel_rfl) (by kernel_rfl) [.pointer (some ⟨w2.heap.size,0,none⟩)] rfl ?_
          refine hcall5.out.mono ?_
          rintro e w6 ⟨⟨vals,rv,rvs,hL1,hL2,rfl,hrr,hrv⟩,k6⟩
          obtain ⟨ra,rc,hrc⟩:=ownE_len hrr
          subst hrc
          have d6:=(HV.out.cells.keeps ((Keeps.drew [] _).trans k6) (by simp)).cell 6
          have Hrr:=hide hrr
          have Hrv:=hide hrv
          have HL1:=hide hL1
          have HL2:=hide hL2
          clear hrr hrv hL1 hL2))
      all_goals
       have kX:=Keeps.alloc [] w6 (.cells #[.slice ra me.rels.length rc,.slice ca me.clauses.length ccc,.slice (some ⟨g,0,none⟩) (ts.length+1) c] 127)
       have k56:Keeps [] w5 w6:=(Keeps.drew [] _).trans k6
       have hVX:=HV.out.keeps (k56.trans kX) (by simp)
       go_wp2_with fail
       go_ret
       refine ⟨⟨w6.heap.size,vals,_,_,_,rvs,kvs,rfl,⟨CellsAt.new w6 _ 127,?_,?_,?_,?_,?_,?_,HL1.out,HL2.out⟩⟩,(kall5.trans k56).trans kX⟩
       ·have:=k56.size;omega
       ·exact ownE_mono (ownsRow_kept Hrr.out kX (by simp)) (by show _≤w5.heap.size;omega)
       ·exact ((Hrv.out.keeps kX (by simp)).farN).mono (by show _≤w5.heap.size;omega)
       ·exact ownE_mono hVX.cls (by omega)
       ·exact hVX.clsA.farN (by omega)
       ·rw [hwl]
        exact ownsRow_kept Hv.out (kb.trans (k56.trans kX)) (by simp)
theorem read_calls {w:World} (s:ByteArray) (hs:s.size≤9223372036854775807):Calls Tryz.prog 66 #[.string s] w fun e w'=>ReadTo w.heap.size (readS s) e w'∧Keeps [] w w':=by
 by_cases h:1200<s.size
 ·refine (read_long s h hs).mono ?_
  rintro e w' ⟨rfl,rfl⟩
  refine ⟨?_,Keeps.refl _ _⟩
  unfold readS
  rw [if_pos h]
  rfl
 ·exact read_short s h
end
section
open Go.RowKit
theorem catch_idle (p:Addr) (w:World):CallsD Tryz.prog 65 #[.pointer (some p)] .returning w fun e u' w'=>e=.returned (.tuple #[])∧u' = .returning∧w' = w:=by
 have hnil:∀ w:World,(binOp BinOp.eql 20 .nilIface .nilIface).run Tryz.prog w=.ok (.bool true) w:=fun _=>by kernel_rfl
 refine callsD_of_wpS Tryz.func65 rfl fun c₀ cs hu=>?_
 apply wpS_seq
 apply wpS_region
 simp [wpOpsS,go_sem,recoverD,hu,Tryz.ntmps65,Exit.thenS]
 apply wpS_seq
 apply wpS_seq
 apply wpS_region
 simp [wpOpsS,go_sem,Exit.thenS,hnil]
 refine wpS_cond (t:=true) (by simp [Act.eval,Array.replicate]) ?_
 simp only [if_true]
 refine wpS_of_wp (wp_ret ?_)
 cases c₀
 simp_all [bodyPostS,results,Tryz.results65,Exit.thenS]
theorem catch_fault (p:Nat) (x y c l:Int) (w:World) (hp:CellsAt w p #[.int .i64 x,.int .i64 y]):CallsD Tryz.prog 65 #[.pointer (some ⟨p,0,none⟩)] (.panicking [{ v:=.iface 28 (.agg #[.int .i64 c,.int .i64 l]),recovered:=false }]) w fun e u' w'=>e=.returned (.tuple #[])∧u' = .panicking [{ v:=.iface 28 (.agg #[.int .i64 c,.int .i64 l]),recovered:=true }]∧CellsAt w' p #[.int .i64 c,.int .i64 l]∧Keeps [p] w w':=by
 have kA:=Keeps.alloc [] w (.cells #[.int .i64 c,.int .i64 l] 28)
 have hpl:=hp.lt
 obtain ⟨c0,f0,c1,f1,hat,hk⟩:=res2 (hp.keeps kA (by simp)) (.int .i64 c) (.int .i64 l)
 obtain ⟨d0,g0,d1,g1,hat2,hk2⟩:=res2 hp (.int .i64 c) (.int .i64 l)
 have hA:=CellsAt.new w #[.int .i64 c,.int .i64 l] 28
 refine callsD_of_wpS Tryz.func65 rfl fun c₀ cs hu=>?_
 apply wpS_seq
 apply wpS_region
 simp [wpOpsS,go_sem,recoverD,hu,Tryz.ntmps65,Exit.thenS]
 refine wpS_of_wp ?_
 have hta:∀ w:World,(Instr.typeAssert (.iface 28 (.agg #[.int .i64 c,.int .i64 l])) 20 28 true).run Tryz.prog w=.ok (.tuple #[.agg #[.int .i64 c,.int .i64 l],.bool true]) w:=fun _=>by first | rfl | kernel_rfl
 simp only [Array.replicate_succ,Array.replicate_zero,List.push_toArray,List.append_toArray,List.nil_append,List.cons_append,List.setIfInBounds_toArray,List.set_cons_succ,List.set_cons_zero]
 have Hat:=hide hat
 have Hk:=hide hk
 have Hat2:=hide hat2
 have Hk2:=hide hk2
 clear hat hk hat2 hk2 hA
 go_wp2_with fail
 have h1:=Hat2.out.keeps (Keeps.alloc [] _ (.cells #[.int .i64 c,.int .i64 l] 28)) (by simp)
 have h2:=Hk2.out.trans (Keeps.alloc [p] _ (.cells #[.int .i64 c,.int .i64 l] 28))
 simp [bodyPostS,results,Tryz.results65]
 exact ⟨h1,h2⟩
theorem RelVs.kept {w w':World} {base:Nat} {T:List Nat} {rs:List RelM} {vs:List Value} (h:RelVs w base [] rs vs) (k:Keeps T w w') (hT:∀ j∈T,j<base∨w.heap.size≤j):RelVs w' base [] rs vs:=h.keeps k (fun j hj=>.inr (hT j hj))
theorem ProgAt.keeps {w w':World} {base p:Nat} {toks:List Tn} {m:Mean} {vals:List Nat} {rv cl tv:Value} {rvs kvs:List Value} {T:List Nat} (h:ProgAt w base p toks m vals rv cl tv rvs kvs) (k:Keeps T w w') (hT:∀ j∈T,j<base∨w.heap.size≤j):ProgAt w' base p toks m vals rv cl tv rvs kvs:=by
 have hT':∀ j,base≤j∧j<w.heap.size→j∉T:=fun j hj hjT=>by have:=hT j hjT;omega
 have own:∀ {e:TypeId} {size n:Nat} {u:Value} {xs:List Value},w.ownsRow base e size u n xs→w'.ownsRow base e size u n xs:=fun h=>ownsRow_kept h k (fun j hj=>hT' j (ownE_lt h j hj))
 exact ⟨h.cells.keeps k (hT' p ⟨h.low,h.cells.lt⟩),h.low,own h.rels,h.relsA.kept k hT,own h.cls,h.clsA.keeps k (fun j hj=>.inr (hT j hj)),own h.toks,h.lay,h.stable⟩
theorem ProgAt.mono {w:World} {base base' p:Nat} {toks:List Tn} {m:Mean} {vals:List Nat} {rv cl tv:Value} {rvs kvs:List Value} (h:ProgAt w base p toks m vals rv cl tv rvs kvs) (hb:base'≤base):ProgAt w base' p toks m vals rv cl tv rvs kvs:=
 ⟨h.cells,Nat.le_trans hb h.low,ownE_mono h.rels hb,h.relsA.mono hb,ownE_mono h.cls hb,h.clsA.farN hb,ownE_mono h.toks hb,h.lay,h.stable⟩
def ThTo (z:Nat) (r:Except Flt (List Tn×Mean)) (e:Ending) (w':World):Prop:=match r with
 | .error f=>e=.returned (.tuple #[.pointer none,.agg #[.int .i64 f.1,.int .i64 f.2]])
 | .ok (toks,m)=>∃ p vals rv cl tv rvs kvs,e=.returned (.tuple #[.pointer (some ⟨p,0,none⟩),.agg #[.int .i64 0,.int .i64 0]])∧ProgAt w' z p toks m vals rv cl tv rvs kvs
theorem und28:∃ fs,Tryz.prog.underlying 28=some (.struct fs):=by
 have h:(match Tryz.prog.underlying 28 with | some (.struct _)=>true | _=>false)=true:=by kernel_rfl
 revert h
 cases Tryz.prog.underlying 28 with
 | none=>intro h;cases h
 | some d=>cases d <;> first | exact fun _=>⟨_,rfl⟩ | (intro h;cases h)
theorem size28:(Tryz.prog.info? 28).map (·.size)=some 2:=by kernel_rfl
theorem ret_two {fn:Func} {t p:Tmp} {ty:TypeId} (h:fn.results=#[.tmp t,.cell p ty]) (tmps:Array Value) {w:World} {g:Nat} {cs:Array Value} {fs:Array Field} (hc:CellsAt w g cs) (hu:Tryz.prog.underlying ty=some (.struct fs)) (hi:(Tryz.prog.info? ty).map (·.size)=some cs.size) (hp:tmps.getD p undef=.pointer (some ⟨g,0,none⟩)):(results fn tmps).run Tryz.prog w=.ok (.tuple #[tmps.getD t undef,.agg cs]) w:=by
 obtain ⟨tt,ht⟩:=hc
 have hp':tmps[p]?.getD undef=.pointer (some ⟨g,0,none⟩):=by simpa using hp
 simp [results,h,hp',asAddr,run_loadVar_row w g tt ty cs (0,0) _ ht hu rfl hi]
theorem thread_calls {w:World} (s:ByteArray) (hs:s.size≤9223372036854775807):Calls Tryz.prog 35 #[.string s] w fun e w'=>ThTo w.heap.size (readS s) e w'∧Keeps [] w w':=by
 have hmf:∀ (fn:Fn) (first cap:Array Value) (w:World),(Instr.makeFunc fn first cap).run Tryz.prog w=.ok (.func fn first cap) w:=fun _ _ _ _=>rfl
 have kA:=Keeps.alloc [] w (.cells #[.int .i64 0,.int .i64 0] 28)
 have hF:=CellsAt.new w #[.int .i64 0,.int .i64 0] 28
 have hrd:=hide (read_calls (w:=w.alloc (.cells #[.int .i64 0,.int .i64 0] 28)) s hs)
 rw [sizeE_alloc] at hrd
 cases hR:readS s with
 | error f=>
  rw [hR] at hrd
  go_enter_defers Tryz.func35,Tryz.ntmps35
  go_wp2_with fail
  refine hrd.out.mono ?_
  rintro e w1 ⟨rfl,k1⟩
  have hF1:=hF.keeps k1 (by simp)
  refine leaves_cons (f:=65) (args:=#[.pointer (some ⟨w.heap.size,0,none⟩)]) (by simp) (by simp [go_sem]) ?_
  refine (catch_fault w.heap.size 0 0 f.1 f.2 w1 hF1).mono ?_
  rintro e u' w2 ⟨rfl,rfl,hF2,k2⟩
  obtain ⟨fs,hfs⟩:=und28
  refine ⟨_,ret_two rfl _ hF2 hfs size28 rfl,?_,?_⟩
  ·rfl
  ·exact (kA.trans k1).trans_new k2 (by simp)
 | ok q=>
  obtain ⟨toks,m⟩:=q
  rw [hR] at hrd
  go_enter_defers Tryz.func35,Tryz.ntmps35
  go_wp2_with fail
  refine hrd.out.mono ?_
  rintro e w1 ⟨⟨p,vals,rv,cl,tv,rvs,kvs,rfl,hP⟩,k1⟩
  have hF1:=hF.keeps k1 (by simp)
  obtain ⟨c0,f0,c1,f1,hat,hk⟩:=res2 hF1 (.int .i64 0) (.int .i64 0)
  have hP2:=hide ((hP.keeps hk (by simp)).mono (Nat.le_succ w.heap.size))
  have hk2:=hide ((kA.trans k1).trans_new hk (by simp))
  have hat2:=hide hat
  clear hP hk hat k1 kA hF hF1 hmf
  go_wp2_with fail
  refine leaves_cons (f:=65) (args:=#[.pointer (some ⟨w.heap.size,0,none⟩)]) (by simp) (by simp [go_sem]) ?_
  refine (catch_idle _ _).mono ?_
  rintro e u' w2 ⟨rfl,rfl,rfl⟩
  obtain ⟨fs,hfs⟩:=und28
  refine ⟨_,ret_two rfl _ hat2.out hfs size28 rfl,?_,hk2.out⟩
  exact ⟨p,vals,rv,cl,tv,rvs,kvs,rfl,hP2.out⟩
end
end Go.Proofs.YtgjomknpjigkhaaGreatDoor

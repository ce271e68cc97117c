import Derived.Test.YtgjomknpjigkhaaGreatDoorZ25
import Derived.Defers
import Derived.Recover
import Derived.Lib.Builder
import Derived.Lib.AppendStr
import Derived.Laws.Externs
import Derived.Shelf.Strings.Builder1
import Derived.Shelf.Strconv.Itoa3
namespace Go.Proofs.YtgjomknpjigkhaaGreatDoor
open Go.Proofs.Tryz
set_option maxRecDepth 100000
set_option maxHeartbeats 4000000
section
open Go.RowKit
theorem TA (ts:List Tn) (m:Nat):(B3 ts m).length=ts.length+1:=by simp [B3]
theorem Yl {w:World} (s:ByteArray) (hs:1200<s.size) (hs2:s.size≤9223372036854775807):Calls prog 66 #[.string s] w fun e w'=>e=Cx 4 0∧w' = w:=by
 have hg:=AD (fun (w:World)=>Ek (w:=w) 4 0);have hI:(1200:Int)<s.size:=by omega
 go_in
 go_wp2_with fail
 refine (hg.out _).mono ?_;rintro e w1 ⟨rfl,rfl⟩;exact ⟨rfl,rfl,rfl⟩
theorem Vy {w:World} (s:ByteArray) (hs:¬ 1200<s.size):Calls prog 66 #[.string s] w fun e w'=>fF w.heap.size (Df s) e w'∧AA [] w w':=by
 have hsc:=AD (Vm (w:=w) s (by omega));have hI:¬ (1200:Int)<s.size:=by omega
 rw [Vn] at hsc
 have hrd:Df s=match FH s.size s 1 with
  | .inr l=>.error (5,l)
  | .inl (ts,m)=>match DO (B3 ts m).length (B3 ts m) with
   | .error l=>.error (5,l)
   | .ok is=>match Bh E7 is with
    | .error f=>.error f
    | .ok me=>match GI me with
     | .error f=>.error f
     | .ok _=>.ok (B3 ts m,me):=by unfold Df;rw [if_neg hs];rfl
 rw [hrd];clear hrd;cases hT:FH s.size s 1 with
 | inr l=>
  rw [hT] at hsc;clear hT;go_in
  go_wp2_with fail
  refine hsc.out.mono ?_;rintro e w1 ⟨he,k1⟩;have he':e=Cx 5 l:=he;subst he';exact ⟨rfl,rfl,k1⟩
 | inl q=>
  obtain ⟨ts,m⟩:=q;rw [hT] at hsc;simp only;have hend:=NI hT;have hwf:=OY hT;obtain ⟨hlen,hm1,_,htx⟩:=QU hT;have hwl:=TA ts m;have hpc:=AD (fun (W:World) (g c:Nat) (h:M3 W g 0 (B3 ts m)) (hc:(B3 ts m).length≤c)=>Ts (w:=W) (g:=g) (c:=c) (toks:=B3 ts m) h hc hend (by omega));have hto:∀ {W:World} {v:Value},W.ownsRow w.heap.size 129 3 v (ts.length+1) (De (B3 ts m))→∃ g c,v=.slice (some ⟨g,0,none⟩) (ts.length+1) c∧M3 W g 0 (B3 ts m)∧ts.length+1≤c:=fun h=>by
   obtain ⟨g,c,rfl⟩:=EL h;exact ⟨g,c,rfl,Rd h,bO h⟩
  have Hto:=AD (fun (W:World) (v:Value) (h:W.ownsRow w.heap.size 129 3 v (ts.length+1) (De (B3 ts m)))=>hto h);cases hG:DO (B3 ts m).length (B3 ts m) with
  | error l=>
   rw [hG] at hpc;clear hT hG hto hend hwf;go_in
   go_wp2_with fail
   refine hsc.out.mono ?_;rintro e w1 ⟨⟨v,rfl,hv⟩,k1⟩;rw [AY,Ig] at hv;obtain ⟨g,c,rfl,hp,hgc⟩:=Hto.out w1 v hv;have hcall:=AD (hpc.out w1 g c hp (by omega));rw [hwl] at hcall;clear hv hp;go_wp2_with fail
   refine hcall.out.mono ?_;rintro e w2 ⟨rfl,k2⟩;exact ⟨rfl,rfl,k1.trans k2⟩
  | ok is=>
   rw [hG] at hpc;simp only;obtain ⟨hin,hil⟩:=UY (AQ _) hend hG;have hin2:∀ i∈is,fK i:=fun i hi=>by
    have h:=hin i hi;have hwfE:∀ t∈B3 ts m,J7 t.g=false→Pp t.g:=fun t ht hf=>by
     rcases AC.1 ht with q | q
     ·exact hwf t q
     ·have e:t=⟨.fin,m⟩:=(by simpa using q);rw [e] at hf;cases hf
    have hterm:∀ t:Tn,Bv t.g=true∧t∈B3 ts m→Bv t.g=true∧Pp t.g:=fun t h=>⟨h.1,hwfE t h.2 (I6.no h.1)⟩;cases i with
    | dom n z=>
     refine ⟨?_,hwfE z h.2.2 (Kh.no h.2.1)⟩;cases hz:z.g with
     | int zs=>exact ⟨zs,rfl⟩
     | _=>have:=h.2.1;rw [hz] at this;cases this
    | rel n cs=>have:=h.2.2;show cs.length≤1000000;omega
    | clause a ls=>
     refine ⟨⟨by have:=h.1.2.2.2;omega,fun t ht=>hterm t (h.1.2.2.1 t ht)⟩,by have:=h.2.2;omega,fun l hl=>⟨by have:=(h.2.1 l hl).2.2.2;omega,fun t ht=>hterm t ((h.2.1 l hl).2.2.1 t ht)⟩⟩
   have hun:=AD (fun (W:World) (X:List Nat) (iv:Value) (vs:List Value) (hr:W.ownsRow w.heap.size 273 1 iv is.length vs) (hia:Dl W w.heap.size X is vs)=>Mc is hr hia hin2 (by omega));cases hS:Bh E7 is with
   | error f=>
    rw [hS] at hun;clear hT hG hto hend hwf hin hin2 hS;go_in
    go_wp2_with fail
    refine hsc.out.mono ?_;rintro e w1 ⟨⟨v,rfl,hv⟩,k1⟩;rw [AY,Ig] at hv;obtain ⟨g,c,rfl,hp,hgc⟩:=Hto.out w1 v hv;have hcall:=AD (hpc.out w1 g c hp (by omega));rw [hwl] at hcall;have hs1:=k1.size;clear hv hp;go_wp2_with fail
    refine hcall.out.mono ?_;rintro e w2 ⟨⟨iv,vs,rfl,hr,hia⟩,k2⟩;have hcall2:=AD (hun.out w2 _ iv vs (BZ hr hs1) (hia.mono hs1));obtain ⟨ia,ic,hiv⟩:=Al hr;subst hiv;clear hr hia;go_wp2_with fail
    refine hcall2.out.mono ?_;rintro e w3 ⟨rfl,k3⟩;exact ⟨rfl,rfl,(k1.trans k2).trans k3⟩
   | ok me=>
    rw [hS] at hun;simp only;have hok:DA me:=Ya DA.empty hS;have hmc:=RX (m:=E7) (cs:=[]) trivial hS;rw [BM] at hmc
    have hfine:∀ c∈me.clauses,JW c∧c.lits.length≤4:=fun c hc=>⟨hmc.fine (fun c' hc'=>by
     have h:=hin2 _ (Se hc')
     exact ⟨h.1.1,fun l hl=>(h.2.2 l hl).1⟩) c hc,hok.lits c hc⟩
    have hnames:∀ r∈me.rels,r.1.size≤1000000:=RW (m:=E7) (p:=fun b=>b.size≤1000000) (by intro r hr;cases hr) (fun i hi n cs e=>by
     subst e;have h:=hin _ hi;rcases AC.1 h.1.2 with q | q
     ·have:=htx n q;omega
     ·have e:n=⟨.fin,m⟩:=(by simpa using q)
      rw [e];exact Nat.zero_le _) hS
    have hus:=AD (fun (W:World) (B:Nat) (h:B5 W B B me)=>RE h hfine hok.clauses);have hci:=AD (fun (W:World) (B:Nat) (h:B5 W B B me)=>QD h hok);unfold GI;clear hT hto hend hwf hin hin2 hS hG hmc;cases hU:EC DQ me.clauses with
    | some l=>
     rw [hU] at hus;simp only;clear hU;go_in
     go_wp2_with fail
     refine hsc.out.mono ?_;rintro e w1 ⟨⟨v,rfl,hv⟩,k1⟩;rw [AY,Ig] at hv;obtain ⟨g,c,rfl,hp,hgc⟩:=Hto.out w1 v hv;have hcall:=AD (hpc.out w1 g c hp (by omega));rw [hwl] at hcall;have hs1:=k1.size;clear hv hp;go_wp2_with fail
     refine hcall.out.mono ?_;rintro e w2 ⟨⟨iv,vs,rfl,hr,hia⟩,k2⟩;have hcall2:=AD (hun.out w2 _ iv vs (BZ hr hs1) (hia.mono hs1));obtain ⟨ia,ic,hiv⟩:=Al hr;subst hiv;clear hr hia;go_wp2_with fail
     refine hcall2.out.mono ?_;rintro e w3 ⟨⟨rfl,hm3⟩,k3⟩;have hcall3:=AD (hus.out w3 w2.heap.size hm3);clear hm3;go_wp2_with fail
     refine hcall3.out.mono ?_;rintro e w4 ⟨rfl,k4⟩;exact ⟨rfl,rfl,((k1.trans k2).trans k3).trans k4⟩
    | none=>
     rw [hU] at hus;simp only;clear hU;cases hC:EC (ET me.rels.length (Cf me.clauses)) me.clauses with
     | some l=>
      rw [hC] at hci;simp only;clear hC;go_in
      go_wp2_with fail
      refine hsc.out.mono ?_;rintro e w1 ⟨⟨v,rfl,hv⟩,k1⟩;rw [AY,Ig] at hv;obtain ⟨g,c,rfl,hp,hgc⟩:=Hto.out w1 v hv;have hcall:=AD (hpc.out w1 g c hp (by omega));rw [hwl] at hcall;have hs1:=k1.size;clear hv hp;go_wp2_with fail
      refine hcall.out.mono ?_;rintro e w2 ⟨⟨iv,vs,rfl,hr,hia⟩,k2⟩;have hcall2:=AD (hun.out w2 _ iv vs (BZ hr hs1) (hia.mono hs1));obtain ⟨ia,ic,hiv⟩:=Al hr;subst hiv;clear hr hia;go_wp2_with fail
      refine hcall2.out.mono ?_;rintro e w3 ⟨⟨rfl,hm3⟩,k3⟩;have hcall3:=AD (hus.out w3 w2.heap.size hm3);have Hm3:=AD hm3;clear hm3;go_wp2_with fail
      refine hcall3.out.mono ?_;rintro e w4 ⟨rfl,k4⟩;have hcall4:=AD (hci.out w4 w2.heap.size (Hm3.out.keeps k4));go_wp2_with fail
      refine hcall4.out.mono ?_;rintro e w5 ⟨rfl,k5⟩;exact ⟨rfl,rfl,(((k1.trans k2).trans k3).trans k4).trans k5⟩
     | none=>
      rw [hC] at hci;simp only;have hnc:=Na hC;have hrl:=AD (fun (W:World) (B:Nat) (h:B5 W B B me)=>Vu h hok hnc hnames);clear hC hnc hnames;go_in
      go_wp2_with fail
      refine hsc.out.mono ?_;rintro e w1 ⟨⟨v,rfl,hv⟩,k1⟩;rw [AY,Ig] at hv;obtain ⟨g,c,rfl,hp,hgc⟩:=Hto.out w1 v hv;have hcall:=AD (hpc.out w1 g c hp (by omega));rw [hwl] at hcall;have hs1:=k1.size;have Hv:=AD hv;clear hv hp;go_wp2_with fail
      refine hcall.out.mono ?_;rintro e w2 ⟨⟨iv,vs,rfl,hr,hia⟩,k2⟩;have hcall2:=AD (hun.out w2 _ iv vs (BZ hr hs1) (hia.mono hs1));obtain ⟨ia,ic,hiv⟩:=Al hr;subst hiv;have hs2:=k2.size;clear hr hia;go_wp2_with fail
      refine hcall2.out.mono ?_;rintro e w3 ⟨⟨rfl,hm3⟩,k3⟩;have hcall3:=AD (hus.out w3 w2.heap.size hm3);have Hm3:=AD hm3;clear hm3;go_wp2_with fail
      refine hcall3.out.mono ?_;rintro e w4 ⟨rfl,k4⟩;have hcall4:=AD (hci.out w4 w2.heap.size (Hm3.out.keeps k4));go_wp2_with fail
      refine hcall4.out.mono ?_;rintro e w5 ⟨rfl,k5⟩;have hm5:=Hm3.out.keeps (k4.trans k5);have kall5:=(((k1.trans k2).trans k3).trans k4).trans k5;have hcall5:=AD (hrl.out w5.drew w2.heap.size (hm5.keeps (AA.drew [] _)));obtain ⟨tD,mD,sz,tN,mN,co,cl,ln,cvs,kvs,hV⟩:=hm5;obtain ⟨ca,ccc,hcl⟩:=Al hV.cls;subst hcl;have c6:=hV.cells.cell 6;have HV:=AD hV;have hBl:=hV.cells.lt;have kb:=k2.trans (k3.trans (k4.trans k5));have hs5:=kb.size;clear hV hcall hcall2 hcall3 hcall4;go_wp2_with fail
      go_region_law (first
       | (refine A2 rfl 138 _ _ rfl _ func138 (by kernel_rfl) (by kernel_rfl) [.pointer (some ⟨w2.heap.size,0,none⟩)] rfl ?_
          refine hcall5.out.mono ?_;rintro e w6 ⟨⟨vals,rv,rvs,hL1,hL2,rfl,hrr,hrv⟩,k6⟩;obtain ⟨ra,rc,hrc⟩:=Al hrr;subst hrc;have d6:=(HV.out.cells.keeps ((AA.drew [] _).trans k6)).cell 6;have Hrr:=AD hrr;have Hrv:=AD hrv;have HL1:=AD hL1;have HL2:=AD hL2
          clear hrr hrv hL1 hL2))
      all_goals
       have kX:=AA.alloc [] w6 (.cells #[.slice ra me.rels.length rc,.slice ca me.clauses.length ccc,.slice (some ⟨g,0,none⟩) (ts.length+1) c] 127);have k56:AA [] w5 w6:=(AA.drew [] _).trans k6;have hVX:=HV.out.keeps (k56.trans kX);go_wp2_with fail
       go_ret
       refine ⟨⟨w6.heap.size,vals,_,_,_,rvs,kvs,rfl,⟨AK.new w6 _ 127,?_,?_,?_,?_,?_,?_,HL1.out,HL2.out⟩⟩,(kall5.trans k56).trans kX⟩
       ·have:=k56.size;omega
       ·exact BZ (AH Hrr.out kX) (by show _≤w5.heap.size;omega)
       ·exact ((Hrv.out.keeps kX).farN).mono (by show _≤w5.heap.size;omega)
       ·exact BZ hVX.cls (by omega)
       ·exact hVX.clsA.farN (by omega)
       ·rw [hwl];exact AH Hv.out (kb.trans (k56.trans kX))
theorem Vz {w:World} (s:ByteArray) (hs:s.size≤9223372036854775807):Calls prog 66 #[.string s] w fun e w'=>fF w.heap.size (Df s) e w'∧AA [] w w':=by
 by_cases h:1200<s.size
 ·refine (Yl s h hs).mono ?_;rintro e w' ⟨rfl,rfl⟩;refine ⟨?_,AA.refl _ _⟩;unfold Df;rw [if_pos h];rfl
 ·exact Vy s h
theorem Wt (p:Addr) (w:World):CallsD prog 65 #[.pointer (some p)] .returning w fun e u' w'=>e=.returned (.tuple #[])∧u' = .returning∧w' = w:=by
 have hnil:∀ w:World,(binOp BinOp.eql 20 .nilIface .nilIface).run prog w=.ok (.bool true) w:=fun _=>by kernel_rfl
 refine callsD_of_wpS func65 rfl fun c₀ cs hu=>?_;apply wpS_seq;apply wpS_region;simp [wpOpsS,go_sem,recoverD,hu,ntmps65,Exit.thenS];apply wpS_seq;apply wpS_seq;apply wpS_region;simp [wpOpsS,go_sem,Exit.thenS,hnil];refine wpS_cond (t:=true) (by simp [Act.eval,Array.replicate]) ?_;simp only [if_true];refine wpS_of_wp (wp_ret ?_);cases c₀;simp_all [bodyPostS,results,Tryz.results65,Exit.thenS]
theorem U2 (p:Nat) (x y c l:Int) (w:World) (hp:AK w p #[.int .i64 x,.int .i64 y]):CallsD prog 65 #[.pointer (some ⟨p,0,none⟩)] (.panicking [{ v:=.iface 28 (.agg #[.int .i64 c,.int .i64 l]),recovered:=false }]) w fun e u' w'=>e=.returned (.tuple #[])∧u' = .panicking [{ v:=.iface 28 (.agg #[.int .i64 c,.int .i64 l]),recovered:=true }]∧AK w' p #[.int .i64 c,.int .i64 l]∧AA [p] w w':=by
 have kA:=AA.alloc [] w (.cells #[.int .i64 c,.int .i64 l] 28);have hpl:=hp.lt;obtain ⟨c0,f0,c1,f1,hat,hk⟩:=Nt (hp.keeps kA) (.int .i64 c) (.int .i64 l);obtain ⟨d0,g0,d1,g1,hat2,hk2⟩:=Nt hp (.int .i64 c) (.int .i64 l);have hA:=AK.new w #[.int .i64 c,.int .i64 l] 28;refine callsD_of_wpS func65 rfl fun c₀ cs hu=>?_;apply wpS_seq;apply wpS_region;simp [wpOpsS,go_sem,recoverD,hu,ntmps65,Exit.thenS];refine wpS_of_wp ?_;have hta:∀ w:World,(Instr.typeAssert (.iface 28 (.agg #[.int .i64 c,.int .i64 l])) 20 28 true).run prog w=.ok (.tuple #[.agg #[.int .i64 c,.int .i64 l],.bool true]) w:=fun _=>by first | rfl | kernel_rfl
 simp only [B0,Bz,CW,Bo,BM,A8,AI,AR,AS];have Hat:=AD hat;have Hk:=AD hk;have Hat2:=AD hat2;have Hk2:=AD hk2;clear hat hk hat2 hk2 hA;go_wp2_with fail
 have h1:=Hat2.out.keeps (AA.alloc [] _ (.cells #[.int .i64 c,.int .i64 l] 28));have h2:=Hk2.out.trans (AA.alloc [p] _ (.cells #[.int .i64 c,.int .i64 l] 28));simp [bodyPostS,results,Tryz.results65];exact ⟨h1,h2⟩
theorem EG.kept {w w':World} {base:Nat} {T:List Nat} {rs:List HN} {vs:List Value} (h:EG w base [] rs vs) (k:AA T w w') (hT:∀ j∈T,j<base∨w.heap.size≤j):EG w' base [] rs vs:=h.keeps k (fun j hj=>.inr (hT j hj))
theorem HB.keeps {w w':World} {base p:Nat} {toks:List Tn} {m:Mean} {vals:List Nat} {rv cl tv:Value} {rvs kvs:List Value} {T:List Nat} (h:HB w base p toks m vals rv cl tv rvs kvs) (k:AA T w w') (hT:∀ j∈T,j<base∨w.heap.size≤j:=by simp):HB w' base p toks m vals rv cl tv rvs kvs:=by
 have hT':∀ j,base≤j∧j<w.heap.size→j∉T:=fun j hj hjT=>by have:=hT j hjT;omega
 have own:∀ {e:TypeId} {size n:Nat} {u:Value} {xs:List Value},w.ownsRow base e size u n xs→w'.ownsRow base e size u n xs:=fun h=>AH h k (fun j hj=>hT' j (Bd h j hj));exact ⟨h.cells.keeps k (hT' p ⟨h.low,h.cells.lt⟩),h.low,own h.rels,h.relsA.kept k hT,own h.cls,h.clsA.keeps k (fun j hj=>.inr (hT j hj)),own h.toks,h.lay,h.stable⟩
theorem HB.mono {w:World} {base base' p:Nat} {toks:List Tn} {m:Mean} {vals:List Nat} {rv cl tv:Value} {rvs kvs:List Value} (h:HB w base p toks m vals rv cl tv rvs kvs) (hb:base'≤base):HB w base' p toks m vals rv cl tv rvs kvs:=
 ⟨h.cells,At hb h.low,BZ h.rels hb,h.relsA.mono hb,BZ h.cls hb,h.clsA.farN hb,BZ h.toks hb,h.lay,h.stable⟩
def ThTo (z:Nat) (r:Except I0 (List Tn×Mean)) (e:Ending) (w':World):Prop:=match r with
 | .error f=>e=.returned (.tuple #[.pointer none,.agg #[.int .i64 f.1,.int .i64 f.2]])
 | .ok (toks,m)=>∃ p vals rv cl tv rvs kvs,e=.returned (.tuple #[.pointer (some ⟨p,0,none⟩),.agg #[.int .i64 0,.int .i64 0]])∧HB w' z p toks m vals rv cl tv rvs kvs
theorem XM:∃ fs,prog.underlying 28=some (.struct fs):=by
 have h:(match prog.underlying 28 with | some (.struct _)=>true | _=>false)=true:=by kernel_rfl
 revert h
 cases prog.underlying 28 with
 | none=>intro h;cases h
 | some d=>cases d <;> first | exact fun _=>⟨_,rfl⟩ | (intro h;cases h)
theorem Mg:(prog.info? 28).map (·.size)=some 2:=by kernel_rfl
theorem N3 {fn:Func} {t p:Tmp} {ty:TypeId} (h:fn.results=#[.tmp t,.cell p ty]) (tmps:Array Value) {w:World} {g:Nat} {cs:Array Value} {fs:Array Field} (hc:AK w g cs) (hu:prog.underlying ty=some (.struct fs)) (hi:(prog.info? ty).map (·.size)=some cs.size) (hp:tmps.getD p undef=.pointer (some ⟨g,0,none⟩)):(results fn tmps).run prog w=.ok (.tuple #[tmps.getD t undef,.agg cs]) w:=by
 obtain ⟨tt,ht⟩:=hc;have hp':tmps[p]?.getD undef=.pointer (some ⟨g,0,none⟩):=by simpa using hp
 simp [results,h,hp',asAddr,run_loadVar_row w g tt ty cs (0,0) _ ht hu rfl hi]
theorem Ls {w:World} (s:ByteArray) (hs:s.size≤9223372036854775807):Calls prog 35 #[.string s] w fun e w'=>ThTo w.heap.size (Df s) e w'∧AA [] w w':=by
 have hmf:∀ (fn:Fn) (first cap:Array Value) (w:World),(Instr.makeFunc fn first cap).run prog w=.ok (.func fn first cap) w:=fun _ _ _ _=>rfl;have kA:=AA.alloc [] w (.cells #[.int .i64 0,.int .i64 0] 28);have hF:=AK.new w #[.int .i64 0,.int .i64 0] 28;have hrd:=AD (Vz (w:=w.alloc (.cells #[.int .i64 0,.int .i64 0] 28)) s hs);rw [AX] at hrd;cases hR:Df s with
 | error f=>
  rw [hR] at hrd;go_enter_defers func35,ntmps35
  go_wp2_with fail
  refine hrd.out.mono ?_;rintro e w1 ⟨rfl,k1⟩;have hF1:=hF.keeps k1;refine leaves_cons (f:=65) (args:=#[.pointer (some ⟨w.heap.size,0,none⟩)]) (by simp) (by simp [go_sem]) ?_;refine (U2 w.heap.size 0 0 f.1 f.2 w1 hF1).mono ?_;rintro e u' w2 ⟨rfl,rfl,hF2,k2⟩;obtain ⟨fs,hfs⟩:=XM;refine ⟨_,N3 rfl _ hF2 hfs Mg rfl,?_,?_⟩
  ·rfl
  ·exact (kA.trans k1).trans_new k2 (by simp)
 | ok q=>
  obtain ⟨toks,m⟩:=q;rw [hR] at hrd;go_enter_defers func35,ntmps35
  go_wp2_with fail
  refine hrd.out.mono ?_;rintro e w1 ⟨⟨p,vals,rv,cl,tv,rvs,kvs,rfl,hP⟩,k1⟩;have hF1:=hF.keeps k1;obtain ⟨c0,f0,c1,f1,hat,hk⟩:=Nt hF1 (.int .i64 0) (.int .i64 0);have hP2:=AD ((hP.keeps hk).mono (Nat.le_succ w.heap.size));have hk2:=AD ((kA.trans k1).trans_new hk (by simp));have hat2:=AD hat;clear hP hk hat k1 kA hF hF1 hmf;go_wp2_with fail
  refine leaves_cons (f:=65) (args:=#[.pointer (some ⟨w.heap.size,0,none⟩)]) (by simp) (by simp [go_sem]) ?_;refine (Wt _ _).mono ?_;rintro e u' w2 ⟨rfl,rfl,rfl⟩;obtain ⟨fs,hfs⟩:=XM;refine ⟨_,N3 rfl _ hat2.out hfs Mg rfl,?_,hk2.out⟩;exact ⟨p,vals,rv,cl,tv,rvs,kvs,rfl,hP2.out⟩
end
section
open Go.RowKit Go.Shelf
def UT:Go.Shelf.Ren:=⟨fun | 171=>31 | 243=>52 | 246=>90 | 283=>155 | 284=>156 | 285=>157 | 286=>158 | 129=>224 | 317=>223 | 318=>225 | 319=>226 | 320=>227 | 337=>266 | 338=>267 | n=>n,fun | 3=>3 | 9=>9 | 2=>2 | 4=>4 | 171=>229 | 0=>0 | 53=>230 | 37=>120 | 5=>5 | 173=>233 | 212=>299 | 51=>300 | 20=>20 | 213=>301 | 46=>226 | 232=>357 | 233=>358 | n=>n,fun | 17=>0 | 18=>1 | 19=>2 | n=>n⟩
theorem iK:Go.Proofs.Lays.n171 prog UT:={
 mixed:=by kernel_rfl
 f129:=func224.trans (congrArg some (by kernel_rfl))
 f171:=func31.trans (congrArg some (by kernel_rfl))
 f243:=func52.trans (congrArg some (by kernel_rfl))
 f246:=func90.trans (congrArg some (by kernel_rfl))
 f283:=func155.trans (congrArg some (by kernel_rfl))
 f284:=func156.trans (congrArg some (by kernel_rfl))
 f285:=func157.trans (congrArg some (by kernel_rfl))
 f286:=func158.trans (congrArg some (by kernel_rfl))
 f317:=func223.trans (congrArg some (by kernel_rfl))
 f318:=func225.trans (congrArg some (by kernel_rfl))
 f319:=func226.trans (congrArg some (by kernel_rfl))
 f320:=func227.trans (congrArg some (by kernel_rfl))
 f337:=func266.trans (congrArg some (by kernel_rfl))
 f338:=func267.trans (congrArg some (by kernel_rfl))
 t0:=underlying0
 a0:=Tryz.isAgg0
 z0:=Tryz.sizeOf0
 v0:=Tryz.zeroValue0
 t2:=underlying2
 a2:=Tryz.isAgg2
 z2:=Tryz.sizeOf2
 v2:=Tryz.zeroValue2
 t3:=underlying3
 a3:=Tryz.isAgg3
 z3:=Tryz.sizeOf3
 v3:=Tryz.zeroValue3
 t4:=underlying4
 a4:=Tryz.isAgg4
 z4:=Tryz.sizeOf4
 v4:=Tryz.zeroValue4
 t5:=underlying5
 a5:=Tryz.isAgg5
 z5:=Tryz.sizeOf5
 v5:=Tryz.zeroValue5
 t9:=underlying9
 a9:=Tryz.isAgg9
 z9:=Tryz.sizeOf9
 v9:=Tryz.zeroValue9
 t20:=underlying20
 a20:=Tryz.isAgg20
 z20:=Tryz.sizeOf20
 v20:=Tryz.zeroValue20
 t37:=underlying120
 a37:=Tryz.isAgg120
 z37:=Tryz.sizeOf120
 v37:=Tryz.zeroValue120
 t46:=underlying226
 a46:=Tryz.isAgg226
 z46:=Tryz.sizeOf226
 v46:=Tryz.zeroValue226
 t51:=underlying300
 a51:=Tryz.isAgg300
 z51:=Tryz.sizeOf300
 v51:=Tryz.zeroValue300
 t53:=underlying230
 a53:=Tryz.isAgg230
 z53:=Tryz.sizeOf230
 v53:=Tryz.zeroValue230
 t171:=underlying229
 a171:=Tryz.isAgg229
 z171:=Tryz.sizeOf229
 v171:=Tryz.zeroValue229
 t173:=underlying233
 a173:=Tryz.isAgg233
 z173:=Tryz.sizeOf233
 v173:=Tryz.zeroValue233
 t212:=underlying299
 a212:=Tryz.isAgg299
 z212:=Tryz.sizeOf299
 v212:=Tryz.zeroValue299
 t213:=underlying301
 a213:=Tryz.isAgg301
 z213:=Tryz.sizeOf301
 t232:=underlying357
 a232:=Tryz.isAgg357
 z232:=Tryz.sizeOf357
 v232:=Tryz.zeroValue357
 t233:=underlying358
 a233:=Tryz.isAgg358
 z233:=Tryz.sizeOf358
 v233:=Tryz.zeroValue358
 g17:=by kernel_rfl
 g18:=by kernel_rfl
 g19:=by kernel_rfl }
theorem itoaS (i:Nat) (hi:i<100) (w:World):Calls prog 31 #[.int .i64 i] w fun e w'=>e=.returned (.string ⟨(Lib.decDigits i).toArray⟩)∧w' = w:=Any.strconv_Itoa_small iK i hi w
theorem Wo (i:Nat) (hi:i<100):(⟨(Lib.decDigits i).toArray⟩:ByteArray)=Kn i:=by
 unfold Kn;rw [Lib.decDigits];by_cases h:i<10
 ·rw [dif_pos h,if_neg (by omega)];rw [show (48+(i:Int) % 10).toNat.toUInt8=UInt8.ofNat (48+i) by rw [show (48+(i:Int) % 10).toNat=48+i by omega]]
 ·rw [dif_neg h,if_pos (by omega),Lib.decDigits,dif_pos (by omega)];rw [show (48+(i:Int) % 10).toNat.toUInt8=UInt8.ofNat (48+i % 10) by rw [show (48+(i:Int) % 10).toNat=48+i % 10 by omega]];rw [show (48+(i:Int) / 10).toNat.toUInt8=UInt8.ofNat (48+i / 10) by rw [show (48+(i:Int) / 10).toNat=48+i / 10 by omega]];rfl
theorem G0 (n:Int) (h0:0≤n) (h1:n<100) (w:World):Calls prog 31 #[.int .i64 n] w fun e w'=>e=.returned (.string (Kn n))∧w' = w:=by
 obtain ⟨i,rfl⟩:=Bm h0;have hi:i<100:=by omega
 have:=itoaS i hi w;rw [Wo i hi] at this;exact this
end
section
open Go.RowKit
def NZ {α:Type}:Except I0 α→I0
 | .error f=>f
 | .ok _=>(0,0)
theorem Tl {s:ByteArray} {toks:List Tn} {m:Mean} (h:Df s=.ok (toks,m)):s.size≤1200∧∃ ts l is,FH s.size s 1=.inl (ts,l)∧toks=B3 ts l∧DO toks.length toks=.ok is∧Bh E7 is=.ok m:=by
 unfold Df at h;split at h
 ·cases h
 ·refine ⟨by omega,?_⟩;split at h
  ·cases h
  ·rename_i ts l hs;split at h
   ·cases h
   ·rename_i is hi;split at h
    ·cases h
    ·rename_i me hm;split at h
     ·cases h
     ·cases h;exact ⟨ts,l,is,hs,rfl,hi,hm⟩
theorem V0 {s:ByteArray} {toks:List Tn} {m:Mean} (h:Df s=.ok (toks,m)):toks.length≤1201∧∀ t∈toks,Pp t.g∨t.g=.fin:=by
 obtain ⟨h0,ts,l,is,hs,rfl,_⟩:=Tl h;have h1:=(QU hs).1;have h2:=OY hs;refine ⟨by simp [B3];omega,fun t ht=>?_⟩;simp only [B3,AC,AF] at ht;rcases ht with ht | rfl
 ·exact .inl (h2 t ht)
 ·exact .inr rfl
theorem Z3 {z:Nat} {r:Except I0 (List Tn×Mean)} {e:Ending} {w':World} (h:ThTo z r e w'):∃ p:Value,e=.returned (.tuple #[p,.agg #[.int .i64 (NZ r).1,.int .i64 (NZ r).2]])∧((p=.pointer none∧∃ f,r=.error f)∨∃ b,p=.pointer (some ⟨b,0,none⟩)):=by
 cases r with
 | error f=>exact ⟨_,h,.inl ⟨rfl,f,rfl⟩⟩
 | ok q=>
  obtain ⟨toks,m⟩:=q;obtain ⟨p,vals,rv,cl,tv,rvs,kvs,he,_⟩:=h;exact ⟨_,he,.inr ⟨p,rfl⟩⟩
theorem Ld {w:World} (s:ByteArray) (hs:s.size≤9223372036854775807):Calls prog 15 #[.string s] w fun e w'=>e=.returned (.agg #[.int .i64 (NZ (Df s)).1,.int .i64 (NZ (Df s)).2])∧AA [] w w':=by
 have kA:=AA.alloc [] w (.cells #[.int .i64 0,.int .i64 0] 28);have hF:=AK.new w #[.int .i64 0,.int .i64 0] 28;have hrd:=AD (Ls (w:=w.alloc (.cells #[.int .i64 0,.int .i64 0] 28)) s hs);generalize hX:(NZ (Df s)).1=X at *;generalize hY:(NZ (Df s)).2=Y at *;go_in
 go_wp2_with fail
 refine hrd.out.mono ?_;rintro e w1 ⟨hto,k1⟩;obtain ⟨p,rfl,hp⟩:=Z3 hto;rw [hX,hY];clear hto hrd;have hF1:=hF.keeps k1;have hsz:=k1.size;rw [AX] at hsz;have kB:=AA.alloc [] w1 (.cells #[.int .i64 X,.int .i64 Y] 28);obtain ⟨c0,f0,c1,f1,hat,hk⟩:=Nt (hF1.keeps kB) (.int .i64 X) (.int .i64 Y);have Hat2:=AD hat;have HK:=AD (((kA.trans k1).trans kB).trans_new hk (by simp));clear hk hat kB hF1 kA hF k1 hX hY;obtain ⟨fs,hfs⟩:=XM;rcases hp with ⟨rfl,_⟩ | ⟨b,rfl⟩
 ·go_wp2_with fail
  exact bodyPost_ret (v:=.agg #[.int .i64 X,.int .i64 Y]) (EO (p:=2) (ty:=28) (by kernel_rfl) _ Hat2.out hfs Mg rfl) rfl ⟨rfl,HK.out⟩
 ·go_wp2_with fail
  exact bodyPost_ret (v:=.agg #[.int .i64 X,.int .i64 Y]) (EO (p:=2) (ty:=28) (by kernel_rfl) _ Hat2.out hfs Mg rfl) rfl ⟨rfl,HK.out⟩
end
end Go.Proofs.YtgjomknpjigkhaaGreatDoor

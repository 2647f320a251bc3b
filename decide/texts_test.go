package decide_test

import (
	"math/big"
	"slices"
	"testing"

	"marlinspike/decide"
	"marlinspike/rounds"
)

// What follows was worked out apart from the program, by the document's words: by numbers
// of any length, from X on, and polynomials that are multiplied and divided scalar by scalar.

// numberOf is the number of a text of hexadecimal digits.
func numberOf(text string) *big.Int {
	k, _ := new(big.Int).SetString(text, 16)
	return k
}

// powersOf are so many powers of a number, from one exponent on, step by step.
func powersOf(base int64, count, from, step int) (l []*big.Int) {
	for j := range count {
		l = append(l, raised(whole(base), from+j*step))
	}
	return l
}

// told is a tale at 7^61, 11^83 and 23^77, by 13^90, 17^70, 19^50.
func told(z decide.Sizes, in []*big.Int, l [count]*big.Int) tale {
	return tale{z, in, raised(whole(7), 61), raised(whole(11), 83), raised(whole(23), 77), [3]*big.Int{raised(whole(13), 90), raised(whole(17), 70), raised(whole(19), 50)}, l}
}

// solved are sizes, how many inputs there are, which are the powers of 11 by 13 j, and what
// they are worth at b; and of the values 29^3, 29^8, and so on, in the order of their places,
// the H1 by which the first equation holds, or the S, and the H2 by which the second one does.
type solved struct {
	z            decide.Sizes
	count        int
	i, h1, s, h2 string
}

func TestSolvedApart(t *testing.T) {
	for i, x := range allSolved() {
		y := told(x.z, powersOf(11, x.count, 0, 13), [count]*big.Int(powersOf(29, count, 3, 5)))
		wantInputs(t, what(i), y.z, y.in, y.b, numberOf(x.i))
		for _, o := range []struct {
			q     equation
			place int
			text  string
		}{{first(), atH1, x.h1}, {first(), atS, x.s}, {second(), atH2, x.h2}} {
			o.q.want(t, what(i), y, false)
			y := y.but(o.place, numberOf(o.text))
			o.q.want(t, what(i, ", ", named(o.place)), y, true)
			for _, place := range o.q.parts {
				o.q.want(t, what(i, ", another ", named(place)), y.but(place, plus(y.l[place], whole(1))), false)
			}
		}
	}
}

// What the tests hold the program against is held against it, too.
func TestModel(t *testing.T) {
	for i, x := range allSolved() {
		y := told(x.z, powersOf(11, x.count, 0, 13), [count]*big.Int(powersOf(29, count, 3, 5)))
		if !same(y.inputs(), numberOf(x.i)) {
			t.Errorf("%d: inputs are worth %x", i, y.inputs())
		}
		for place, text := range map[int]string{atH1: x.h1, atS: x.s} {
			if z := first().sure(t, what(i), y, place); !same(z.l[place], numberOf(text)) {
				t.Errorf("%d: %s is %x", i, named(place), z.l[place])
			}
		}
		if z := second().sure(t, what(i), y, atH2); !same(z.l[atH2], numberOf(x.h2)) {
			t.Errorf("%d: H2 is %x", i, z.l[atH2])
		}
	}
}

// What the rounds' polynomials are worth, in the order of values, of both examples, by the
// draws 23, 23^6, 23^11, and so on.
func TestRoundsApart(t *testing.T) {
	for i, x := range examples(t) {
		var l [count]*big.Int
		for j, text := range allRounds()[i] {
			l[j] = numberOf(text)
		}
		y := told(decide.Sizes{N: x.s.N, X: x.s.X, M: x.s.M}, x.in, l)
		made := x.proved(t, powersOf(23, rounds.Draws(x.s), 1, 5), y.a, y.b, y.e).at(y.g)
		if !slices.EqualFunc(l[:], made.l[:], same) {
			t.Errorf("example %d: the rounds' polynomials are worth something else", i)
		}
		for _, q := range both() {
			q.want(t, what("example ", i), y, true)
			for _, place := range q.parts {
				q.want(t, what("example ", i, ", another ", named(place)), y.but(place, plus(y.l[place], whole(1))), false)
			}
		}
		for _, in := range [][]*big.Int{wholes(1, 8), wholes(1), wholes(0, 9), wholes(9, 1), nil} {
			y.in = in
			first().want(t, what("example ", i, " of ", in), y, false)
		}
	}
}

func allSolved() []solved {
	return []solved{
		{decide.Sizes{N: 1, X: 1, M: 1}, 0, "0000000000000000000000000000000000000000000000000000000000000000", "0357f924ec69f85e6a5f02b21996401bc615554cd5ec20bda2fc9a361f553b8e", "05de3ca6da78c37ec873b322329d69b5aa32ffd37032b6699560abf7a754efae", "01c397e066e9dd29059d65dc40e3075c5f557c6d073301c64b3abf941e532d19"},
		{decide.Sizes{N: 1, X: 1, M: 1}, 1, "0000000000000000000000000000000000000000000000000000000000000001", "05555b6bdfe00553cbb3424335085d30ad135e1a48ea74792bdc7975901d7f6f", "05de3ca6da78c37ec873b322329d69b5aa33d4a81d1a3da8b66437f89e913343", "01c397e066e9dd29059d65dc40e3075c5f557c6d073301c64b3abf941e532d19"},
		{decide.Sizes{N: 1, X: 2, M: 1}, 2, "044750cdc7d75768b708bbc3208dcba97823f90630ef43eb1e128cd9911cec24", "03a0cbe825faff6143a833b182b22d6e272f284fce41c84503a67535d0288048", "02aacbbf25ecac10a17619727d43f42bc3b71eb67e4f576996563967d0d13144", "01c397e066e9dd29059d65dc40e3075c5f557c6d073301c64b3abf941e532d19"},
		{decide.Sizes{N: 2, X: 1, M: 2}, 1, "0000000000000000000000000000000000000000000000000000000000000001", "04c9ac2f051a9a074b23eb9ce9d4ddd3eb010a6b545d09a72c5bd72bc6a54eb2", "0e48f4738a3341ac28b98a968b093993be5d5f929dc92ca105d3352dca38c6c5", "0dd4d3e121d927e9d4e6265845c4c0646f7afae2e5c9acd7f30ba4ed9b0cbdd6"},
		{decide.Sizes{N: 2, X: 2, M: 4}, 1, "076e5ae2281a8ec68f5e0f0e01bb50cb141eefc4a9180d66437d348b3ea83d7d", "0dd89c3bb13c1516634c526a7089dda43517f6449750135cc792e705830c8c6f", "007b2b7350d0de8b582591783302fcc95abcab10e6a90f02f113c3e5accbdc8c", "00e4e75e238769c1de9484ffac2244df836ee09232b030521b4d6ea79cf8f8f5"},
		{decide.Sizes{N: 4, X: 2, M: 2}, 2, "044750cdc7d75768b708bbc3208dcba97823f90630ef43eb1e128cd9911cec24", "0930e793f5dabe7ace0411219e3df4f0fa61801ae5dba7133e652c3c5d3fc720", "10c72b6f297935cc84755357e4ecc186a28de26bb4cad219df16ab78c4ca9f42", "10dae0f66c919d1c67dcb0d5ae31eb465ee9de8a4212264737e6f7b2f5cea81b"},
		{decide.Sizes{N: 8, X: 2, M: 4}, 2, "044750cdc7d75768b708bbc3208dcba97823f90630ef43eb1e128cd9911cec24", "0af5199487d7a78f8584fa528a4ad1a28bc1434a4f30167309175c1e93e54132", "11835ddaacad646aeacf2cd43c6214db8f2d65d7cfd292d242e441b8bfdf4429", "01169e16309db8c7bee42898b6de8adc006fd2a785a6d58b6638a737a6df3655"},
		{decide.Sizes{N: 8, X: 8, M: 2}, 5, "0c48236607a752b52cf3f136f9fcb5c6bff07737e4f133c3489626185c2a8d6e", "084a6b38eca7959d8a13016e6622adde128dec6abadccbe0f057c49d40fb76ad", "07dd5ea2617bace84cc9df85c48c8882d42c52555bc8bb2aa097f2d0dceb1f9e", "05b71db708b706b5c0d5ad2aade173c3ea1168ca98031e46b0ebb0089f354095"},
		{decide.Sizes{N: 16, X: 32, M: 8}, 32, "0ae95fadff991b9bb05f9f4beaa21f658cdb9b80f0c764916415779a7ec4d5ee", "006a9111a428c7ae6e1dd4df3248b778cdb883f293ffd3484ab69fa77ba87981", "0867007d734f77ec253a1c41b1bab93142c47112a2d7c1ab50c334a172cbf31d", "04e5e0e49e63a6d306d921261cfe286063a01a32f83f4248ad4c6b3710d344e8"},
		{decide.Sizes{N: 64, X: 16, M: 128}, 9, "07aca71424352b9d064c463bcc9a659ca17c84264f37d344ebb0a3d3e503cbd5", "05c87b55af1d9d5605134d94dda9c651b204cf10439bc354f160e2802c05c6aa", "01fcb1d95cfd446d049187d53ab2d9f9cf00232ab676cf1a8c452645151deae9", "00a2d0dce9e542c0634a719352c7ba0e2493e4391771addc7b16e9c392e55ed9"},
		{decide.Sizes{N: 256, X: 64, M: 512}, 64, "0ef8d109128d09622a498a39c39e99c866df65723b8fc8835a9697720f26544d", "02f3021eb02973544ba1b44aef56f507329c2be834d3ba76f475e81a98f330a2", "078ed68d72d88ec27cb022b1ff687ec3a0048c13c2629aa1842fcdb02152b213", "0a5861477f262ca3f02b83b5c9a04166dade1cc207d020265e4a69940b45bd3e"},
		{decide.Sizes{N: 1024, X: 4, M: 65536}, 3, "0b4db3c4c614c7542d752d0fee20e18650b36228d5379f536dfd9cd73d900e62", "02b285c62932847e17daa481b15455be7a2d237d7bf082eb6c6a5a3f4ba27a1f", "01a8ce9793367fcdfc2937def40c3029927c8d85815b7634a6955becc21bca6c", "0c18bc78ad5c565868ce200d19262b3b97457eb6a8a28af763c7276b0db6a7b4"},
		{decide.Sizes{N: 65536, X: 16, M: 65536}, 13, "07e83b1eca39d663111e2b6984ff2a7f890792d462508b3a6663c016112f0983", "090944b420d3d5184950691242331f1ed831955029c013dd1b78491228fc7cf2", "02d6623ee15782014bdb3ad9afbb88c653260a8db9a941b6cd859f1fca8d5947", "03ee7a2c88f58a2abcae01846595a3fca5f86a483f0d62c46b6ad7f820ec5938"},
		{decide.Sizes{N: 2048, X: 1, M: 4096}, 1, "0000000000000000000000000000000000000000000000000000000000000001", "0a7c58addd20c4eb67f14a5c418eb822a93879332dbdebd173a26e1e0dc6bac1", "056ecaa0452df17c8971688cf39d1813732763c4e2ae9c00a04ab7af4fff8d12", "0700272e2336de3b4929e2bc5983f2864f0e148dea217c4bc4734befbca6c56c"},
	}
}

func allRounds() [][]string {
	return [][]string{
		{
			"07e243f5ec9f656c4e266ce2ae173e4baac3336b85f1b97e96ad45225d195e9a",
			"002fdaeafad0b62ecc0f782ddd616d37bdc76a4f08207b655f6351c3566412da",
			"0b67500ce1d727cc8432332ee4f3836184ae22077140e75b04557d2dbcfb4196",
			"1291f2a99ce50dc458fd428139f814495f747ae492dba9811ad85dc4a2fadb5e",
			"07e052812ea7e1e78e207751b90540ecbeadb1965b90c1f8d9b702424609b426",
			"100af7702438ddc090bad27c6f7e051024bbceb4ceb8de250e6ea6bf89d1e4a4",
			"12268886716d1b08de07929e68f762250f284226aaefc437cda695d4bf6e34d1",
			"0000000000000000000000000000000000000000000000000000000000000001",
			"0000000000000000000000000000000000000000000000000000000000000001",
			"0000000000000000000000000000000000000000000000000000000000000001",
			"0fd1fb175dbe4e8bb873aaef5edf6c1f14efcf9ab1fedfb857a571a2740ac809",
			"0fd1fb175dbe4e8bb873aaef5edf6c1f14efcf9ab1fedfb857a571a2740ac809",
			"08a3394bb2924d6ad59a7c9fb6d1c214606766266d5b3114f252d20c16c650ba",
			"053584483462dea05f8024cbac6498c564645601b8d451cb98e132271a29e7eb",
			"053584483462dea05f8024cbac6498c564645601b8d451cb98e132271a29e7eb",
			"116a5fdc3d395a58ef51130e878af243ba8214e3c3ab66238719aa4182d8ca18",
			"03f029409753f0f3c7103ba8dc82a0765f56d8cb2dc860fc6cdb81212304da13",
			"059a1ce241e2e0345e822abea896fb268098e46242db36cc027444564f9a7c3a",
		},
		{
			"0979bc542693ecc754e5012088f56831211df6f143a5fff797f2362baa2dc2a6",
			"03c8735634212ae15598c10c50fc95d8728cfb801bafb263c0cac73271f91088",
			"0fc5a9ce660d5a197df3b15b5b3f6130e39b2f186474ae04b09012d7dc474d53",
			"061dbe3364768789db80d1ca87b59ed55f2a32c2f5d3f603bedfd38e308e58c0",
			"07ec35fe8c93409715e1b4564951020f943139f2f1b25e6fc6fbae7990cafc3c",
			"002da4f15264beb71ee438df593508044ed0230df9072804882474ead4fe405e",
			"0caa66658792054024096886f4de7db3fdd93e33767c7ebc7097877e0710109f",
			"051bc4aaf85372ea3329c7efc2b4342b3cfc5cc585c20910b2f8f3a50c789deb",
			"05f35ea0a7523d7d12c4011030b140de6b07ad67f3f7d19fe079b0602a79e66b",
			"051bc4aaf85372ea3329c7efc2b4342b3cfc5cc585c20910b2f8f3a50c789deb",
			"02e8056ec86bf1dd813d47269183a5306c3e65b34498ad0c36405826aa1f9b65",
			"0de237de5e40590157672100d2449a225fd6cf96ec337e554e1643ca734b1680",
			"0016b8e8935340d61dc6a8cd7abc42f487356cdf152bf2e72b72febeea5dd400",
			"075d46b152de3c3c146b45d034c556a68f27b955f69315a1ea8e9b04d543f36d",
			"0641b7665e41e4935de351a325454c939c080d021cf3b5a4f1aa56b615aa7176",
			"0be022b6fa9d6b40eb2c1a2aadeaa176af6265f7d0547b9384ef2e290393aec0",
			"09da904e578188a54246746e2db87d61f4fef5d30ef2f6788acf2b9f6747c77f",
			"02dc8373e120db54fbc3a5da616574b874384a792c90b41d90d02f78d31c31b9",
		},
	}
}
